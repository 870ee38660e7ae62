/-
  Layer 10, the document's side: labels, given what IsCon tells of what lies within.
-/
import Derived.Test.YtmiicfdigkkbdaaDoorGt07
namespace Go.Proofs.YtmiicfdigkkbdaaDoor
open Go.RowKit

def Fr.nms : Fr → List ByteArray
  | .nil => []
  | .cons x _ r => x.a :: r.nms
theorem Fr.nms_len (a : Fr) : a.nms.length = a.len := by
  induction a with
  | nil => rfl
  | cons x k r _ ih => show r.nms.length + 1 = r.len + 1; rw [ih]
theorem Fr.nms_get {f : Fr} {j : Nat} {t : Tr} (h : f.get j = some t) : f.nms[j]? = some t.1.a := by
  induction f generalizing j with
  | nil => cases h
  | cons x k r _ ih =>
    cases j with
    | zero => injection h with h; rw [← h]; rfl
    | succ j => exact ih h
theorem lbF_app (rise : Bool) (a b : Fr) : ∀ pre, lbF rise pre (a.app b) = (lbF rise pre a && lbF rise (pre ++ a.nms) b) := by
  induction a with
  | nil => intro pre; show _ = (true && lbF rise (pre ++ []) b); rw [List.append_nil, Bool.true_and]; rfl
  | cons x k r _ ih =>
    intro pre
    show (lbOk rise pre x.a && lbF rise (pre ++ [x.a]) (r.app b)) = ((lbOk rise pre x.a && lbF rise (pre ++ [x.a]) r) && lbF rise (pre ++ (x.a :: r.nms)) b)
    rw [ih, Bool.and_assoc, List.append_assoc]
    rfl
def lbBad (rise : Bool) (p s : ByteArray) : Bool := p.toList == s.toList || (rise && !(Op.bytesLess p.toList s.toList || p.toList == s.toList))
theorem lbOk_snoc (rise : Bool) (p : List ByteArray) (q s : ByteArray) : lbOk rise (p ++ [q]) s = (lbOk rise p s && !lbBad rise q s) := by
  induction p with
  | nil => show (!lbBad rise q s && true) = (true && !lbBad rise q s); rw [Bool.and_true, Bool.true_and]
  | cons a p ih => show (!lbBad rise a s && lbOk rise (p ++ [q]) s) = ((!lbBad rise a s && lbOk rise p s) && _); rw [ih, Bool.and_assoc]
theorem lbOk_bad {rise : Bool} {l : List ByteArray} {j : Nat} {q s : ByteArray} (h : l[j]? = some q) (hb : lbBad rise q s = true) : lbOk rise l s = false := by
  induction l generalizing j with
  | nil => cases h
  | cons a l ih =>
    show (!lbBad rise a s && lbOk rise l s) = false
    cases j with
    | zero => injection h with h; rw [h, hb]; rfl
    | succ j => rw [ih h, Bool.and_false]
def ndT (m : Nat) (t : Tr) : Bool := if m = 0 then coT t else if m = 1 then kdT t else fdT m t
theorem coF_c {m : Nat} (hm : m ≠ 1) (x : Nod) (k r : Fr) : coF m (.cons x k r) = (ndT m (x, k) && coF m r) := by
  show (ndT m (x, k) && coF (if m = 1 then 0 else m) r) = _
  rw [if_neg hm]
theorem coF_app {m : Nat} (hm : m ≠ 1) (a b : Fr) : coF m (a.app b) = (coF m a && coF m b) := by
  induction a with
  | nil => show _ = (true && _); rw [Bool.true_and]; rfl
  | cons x k r _ ih =>
    show coF m (.cons x k (r.app b)) = _
    rw [coF_c hm, coF_c hm, ih, Bool.and_assoc]
theorem coF_f {m : Nat} (h0 : m ≠ 0) (h1 : m ≠ 1) (x : Nod) (k r : Fr) : coF m (.cons x k r) = (fdT m (x, k) && coF m r) := by
  rw [coF_c h1]
  unfold ndT
  rw [if_neg h0, if_neg h1]
def flR (rise : Bool) (m : Nat) (f : Fr) : Bool := lbF rise [] f && coF m f
theorem flR_bad {rise : Bool} {m : Nat} (hm : m ≠ 1) {d r : Fr} {x : Nod} {k : Fr} (h0 : m ≠ 0) (h : fdT m (x, k) = false ∨ lbOk rise d.nms x.a = false) : flR rise m (d.app (.cons x k r)) = false := by
  unfold flR
  rw [lbF_app, coF_app hm, coF_f h0 hm, List.nil_append]
  show ((lbF rise [] d && (lbOk rise d.nms x.a && lbF rise _ r)) && _) = false
  rcases h with h | h
  · rw [h, Bool.false_and, Bool.and_false, Bool.and_false]
  · rw [h, Bool.false_and, Bool.and_false, Bool.false_and]
theorem flR_more {rise : Bool} {m : Nat} (hm : m ≠ 1) {d : Fr} {x : Nod} {k : Fr} (h0 : m ≠ 0) (hd : flR rise m d = true) (h1 : fdT m (x, k) = true) (h2 : lbOk rise d.nms x.a = true) : flR rise m (d.app (.cons x k .nil)) = true := by
  unfold flR at hd ⊢
  rw [Bool.and_eq_true] at hd
  rw [lbF_app, coF_app hm, coF_f h0 hm, List.nil_append, hd.1, hd.2, h1]
  show ((true && (lbOk rise d.nms x.a && true)) && _) = true
  rw [h2]
  rfl
theorem Fr.get_appL {a b : Fr} {j : Nat} {t : Tr} (h : a.get j = some t) : (a.app b).get j = some t := by
  induction a generalizing j with
  | nil => cases h
  | cons x k r _ ih =>
    cases j with
    | zero => exact h
    | succ j => exact ih h
theorem lbOk_next {rise : Bool} {l : List ByteArray} {i : Nat} {q s : ByteArray} (h : l[i]? = some q) (h1 : lbOk rise (l.take i) s = true) (h2 : lbBad rise q s = false) : lbOk rise (l.take (i + 1)) s = true := by
  rw [List.take_add_one, h]
  show lbOk rise (l.take i ++ [q]) s = true
  rw [lbOk_snoc, h1, h2]
  rfl
theorem drb2 {b c : Bool} {w : World} (q r : Nat) (h : c = b) : DrB b w (.returned (.bool c)) ((w.drewN q).drewN r) := ⟨by rw [h], q + r, World.drewN_drewN w q r⟩
def CoAt (n : Nat) : Prop := ∀ (t : Tr), szT t ≤ n → ∀ (w : World) (Sq : Nat → Prop) (v : Value), InT w Sq v t → Calls Tryd.prog 41 #[v] w (DrB (coT t) w)
set_option maxHeartbeats 12800000 in
set_option maxRecDepth 100000 in
theorem refLabels {n : Nat} (hco : CoAt n) (m : Nat) (h0 : m ≠ 0) (h1 : m ≠ 1) (rise : Bool) (ks : Fr) (hn : ks.sz ≤ n) (hbig : n ≤ 1000000000) (w : World) (Sq : Nat → Prop) (A : Option Addr) (c : Nat) (hkid : Kid w Sq A ks 0) :
    Calls Tryd.prog 70 #[.slice A ks.len c, .int .i64 (fdK m), .bool rise] w (DrB (flR rise m ks) w) := by
  have HK := Lib.hid hkid
  have hll := Fr.len_le ks
  obtain ⟨N, hN⟩ : ∃ N, ks.len = N := ⟨_, rfl⟩
  rw [hN] at hll ⊢
  have hN1 : N ≤ 1000000000 := by omega
  have HNN := Lib.hid hN
  have HSZ := Lib.hid hn
  have HCO := Lib.hid hco
  obtain ⟨R, hR⟩ : ∃ R, flR rise m ks = R := ⟨_, rfl⟩
  have HR := Lib.hid hR
  obtain ⟨kd, hkd⟩ : ∃ R, fdK m = R := ⟨_, rfl⟩
  have HKD := Lib.hid hkd
  rw [hR, hkd]
  clear hkid hN hn hco hR hkd hll
  go_enter Tryd.func70, Tryd.ntmps70
  go_wp2_with fail
  go_loopw [7, 8, 9] (fun i _ _ wr => ∃ (k : Nat) (done rest : Fr), i = .int .i64 k ∧ k = done.len ∧ ks = done.app rest ∧ flR rise m done = true ∧ Kid w Sq A rest k ∧ ∃ q, wr = w.drewN q) (fun i _ _ _ => N - (intOf i).toNat)
  case atStart => exact ⟨0, .nil, ks, rfl, rfl, rfl, rfl, HK.out, 0, rfl⟩
  case round =>
    obtain ⟨k, done, rest, rfl, hk, hks, hok, hkid, qq, rfl⟩ := hrel
    have hl : N = done.len + rest.len := by rw [← HNN.out, hks, Fr.len_app]
    have hs : ks.sz = done.sz + rest.sz := by rw [hks, Fr.sz_app]
    have hsz := HSZ.out
    have HKS := Lib.hid hks
    have HOK := Lib.hid hok
    clear hok
    by_cases hlt : 0 < rest.len
    · obtain ⟨y, l, r, rfl⟩ := Fr.cut hlt
      obtain ⟨kb, ko, u, rfl, hkb, hcell, hu, hnext⟩ := hkid.next
      have hsr : (Fr.cons y l r).sz = 1 + l.sz + r.sz := rfl
      have hlr : (Fr.cons y l r).len = r.len + 1 := rfl
      have hu' := hu.drew qq
      have cP := refPln true hu'
      obtain ⟨q, p, A2, c2', rfl, hq1, c0, c1, c2, c3, c4, hc, hkid2⟩ := hu'.open
      have hkN : k < N := by omega
      have hkz : (k : Int) < (N : Int) := by omega
      have HK1 := Lib.hid hk
      have HN := Lib.hid hnext
      have HFD : Hid (fdT m (y, l) = (y.k == kd && (plnB y true && (labB y.a && (l.len == 1 && coF 0 l))))) := Lib.hid (by rw [← HKD.out]; rfl)
      have HBAD := Lib.hid (fun h => flR_bad (rise := rise) (m := m) h1 (d := done) (r := r) (x := y) (k := l) h0 h)
      have HMORE := Lib.hid (fun h h' => flR_more (rise := rise) (m := m) h1 (d := done) (x := y) (k := l) h0 HOK.out h h')
      have hsl : l.sz ≤ n := by omega
      clear hkid hnext hu hks hk hl hs hsr hlr hsz hu' c1 c3 h0 h1 HOK
      obtain ⟨K, hK⟩ : ∃ K, y.k = K := ⟨_, rfl⟩
      obtain ⟨Y, hY⟩ : ∃ K, y.a = K := ⟨_, rfl⟩
      obtain ⟨M, hM⟩ : ∃ K, l.len = K := ⟨_, rfl⟩
      have hLB : labB Y = (decide (1 ≤ Y.size) && decide (Y.size ≤ 160)) := rfl
      rw [hK] at c0 HFD
      rw [hY] at c2 HFD HBAD HMORE
      rw [hM] at c4 HFD
      obtain ⟨b, hb⟩ : ∃ b, plnB y true = b := ⟨_, rfl⟩
      rw [hb] at cP HFD
      by_cases a1 : K = kd
      · cases b with
        | false =>
          have HR0 : Hid (R = false) := Lib.hid (by rw [← HR.out, HKS.out]; exact HBAD.out (.inl (by rw [HFD.out]; exact Bool.and_false _)))
          clear hkid2 HBAD HMORE HFD hLB hb hK hY
          subst a1
          go_wp2_with fail
          refine cP.mono ?_
          rintro e w' ⟨rfl, rfl⟩
          go_wp2_with fail
          go_ret
          exact drb _ HR0.out.symm
        | true =>
          by_cases a2 : Y.size < 1
          · have HR0 : Hid (R = false) := Lib.hid (by rw [← HR.out, HKS.out]; exact HBAD.out (.inl (by rw [HFD.out, hLB, decide_eq_false (by omega : ¬ 1 ≤ Y.size)]; simp)))
            have z1 : (Y.size : Int) < 1 := by omega
            clear hkid2 HBAD HMORE HFD hLB hb hK hY
            subst a1
            go_wp2_with fail
            refine cP.mono ?_
            rintro e w' ⟨rfl, rfl⟩
            go_wp2_with fail
            go_ret
            exact drb _ HR0.out.symm
          · have z1 : ¬ (Y.size : Int) < 1 := by omega
            by_cases a3 : 160 < Y.size
            · have HR0 : Hid (R = false) := Lib.hid (by rw [← HR.out, HKS.out]; exact HBAD.out (.inl (by rw [HFD.out, hLB, decide_eq_false (by omega : ¬ Y.size ≤ 160)]; simp)))
              have z2 : (160 : Int) < (Y.size : Int) := by omega
              clear hkid2 HBAD HMORE HFD hLB hb hK hY a2 a3
              subst a1
              go_wp2_with fail
              refine cP.mono ?_
              rintro e w' ⟨rfl, rfl⟩
              go_wp2_with fail
              go_ret
              exact drb _ HR0.out.symm
            · have z2 : ¬ (160 : Int) < (Y.size : Int) := by omega
              by_cases a4 : M = 1
              · subst a4
                obtain ⟨x1, k1, rfl⟩ := Fr.one hM
                obtain ⟨kb2, ko2, u2, rfl, hkb2, hu2, ht2, _⟩ := hkid2.next
                have cI := HCO.out (x1, k1) (by unfold szT; simp only [Fr.sz] at hsl; simp only; omega) _ _ _ ht2
                have HF2 : Hid (fdT m (y, .cons x1 k1 .nil) = coT (x1, k1)) := Lib.hid (by rw [HFD.out, hLB, decide_eq_true (by omega : 1 ≤ Y.size), decide_eq_true (by omega : Y.size ≤ 160), a1, coF_0]; simp [coF])
                rw [Nat.add_zero] at hu2
                obtain ⟨b2, hb2⟩ : ∃ b, coT (x1, k1) = b := ⟨_, rfl⟩
                rw [hb2] at cI HF2
                clear hkid2 HFD hLB hb hK ht2 a2 a3 hb2 hM hsl
                cases b2 with
                | false =>
                  have HR0 : Hid (R = false) := Lib.hid (by rw [← HR.out, HKS.out]; exact HBAD.out (.inl HF2.out))
                  clear HBAD HMORE HF2 hY
                  subst a1
                  go_wp2_with fail
                  refine cP.mono ?_
                  rintro e w' ⟨rfl, rfl⟩
                  go_wp2_with fail
                  refine cI.mono ?_
                  rintro e w' ⟨rfl, q2, rfl⟩
                  rw [World.drewN_drewN]
                  go_wp2_with fail
                  go_ret
                  exact drb _ HR0.out.symm
                | true =>
                  subst a1
                  go_wp2_with fail
                  refine cP.mono ?_
                  rintro e w' ⟨rfl, rfl⟩
                  go_wp2_with fail
                  refine cI.mono ?_
                  rintro e w' ⟨rfl, q2, rfl⟩
                  go_wp2_with fail
                  have c2w : w.cell? ⟨q, p + 2, none⟩ = some (.string Y) := c2
                  clear c0 c2 c4 hu2 z1 z2 hc cP cI
                  rename_i hzz
                  clear hzz
                  go_loopw [9] (fun j wb => ∃ i : Nat, j = .int .i64 i ∧ i ≤ k ∧ lbOk rise (done.nms.take i) Y = true ∧ ∃ q, wb = w.drewN q) (fun j _ => k - (intOf j).toNat)
                  case atStart => exact ⟨0, rfl, Nat.zero_le _, rfl, _, rfl⟩
                  case round =>
                    obtain ⟨i, rfl, hik, hlb, q3, rfl⟩ := hrel
                    have HLB := Lib.hid hlb
                    clear hlb
                    by_cases hlt2 : i < k
                    · have hiz : (i : Int) < (k : Int) := by omega
                      have hiN : (i : Int) < (N : Int) := by omega
                      obtain ⟨t2, ht2⟩ := Fr.get_some (f := done) (i := i) (by rw [← HK1.out]; exact hlt2)
                      obtain ⟨kb', ko', v2, he, _, hv2, hT2⟩ := HK.out.at (by rw [HKS.out]; exact Fr.get_appL ht2)
                      injection he with he
                      injection he with e1 e2
                      subst e1 e2
                      obtain ⟨p1, p2, A3, c3, rfl, _, d0, d1, d2, d3, d4, _, _⟩ := hT2.open
                      obtain ⟨X, hX⟩ : ∃ X, t2.1.a = X := ⟨_, rfl⟩
                      rw [hX] at d2
                      have hnm := Fr.nms_get ht2
                      rw [hX] at hnm
                      have HNM := Lib.hid hnm
                      obtain ⟨f1, hf1⟩ : ∃ b, (X.toList == Y.toList) = b := ⟨_, rfl⟩
                      obtain ⟨f2, hf2⟩ : ∃ b, Op.bytesLess X.toList Y.toList = b := ⟨_, rfl⟩
                      have hbd : lbBad rise X Y = (f1 || (rise && !(f2 || f1))) := by unfold lbBad; rw [hf1, hf2]
                      have HBD := Lib.hid hbd
                      have hw1 : wrap64 ((i : Int) + 1) = ((i + 1 : Nat) : Int) := by unfold wrap64; omega
                      clear hT2 d0 d1 d3 d4 hnm hbd ht2 hX
                      by_cases hbb : lbBad rise X Y = true
                      · have HR0 : Hid (R = false) := Lib.hid (by rw [← HR.out, HKS.out]; exact HBAD.out (.inr (lbOk_bad HNM.out hbb)))
                        rw [HBD.out] at hbb
                        clear HBD HBAD HMORE HF2
                        cases f1 with
                        | true =>
                          clear hf2 hbb
                          go_wp2_with fail
                          go_big_quiet (fail)
                          go_wp2_with fail
                          go_ret
                          exact drb2 _ _ HR0.out.symm
                        | false =>
                          cases rise with
                          | false => cases hbb
                          | true =>
                            cases f2 with
                            | true => cases hbb
                            | false =>
                              clear hbb
                              go_wp2_with fail
                              go_big_quiet (fail)
                              go_wp2_with fail
                              go_ret
                              exact drb2 _ _ HR0.out.symm
                      · have HNX := Lib.hid (lbOk_next HNM.out HLB.out (by cases h : lbBad rise X Y with | false => rfl | true => exact absurd h hbb))
                        rw [HBD.out] at hbb
                        clear HBD
                        cases f1 with
                        | true => exact absurd rfl hbb
                        | false =>
                          cases rise with
                          | false =>
                            clear hf2 hbb
                            go_wp2_with fail
                            go_big_quiet (fail)
                            go_wp2_with fail
                            go_roundw
                            case rel => exact ⟨i + 1, by go_num, by omega, HNX.out, _, rfl⟩
                            case measure => simp [intOf]; omega
                          | true =>
                            cases f2 with
                            | false => exact absurd rfl hbb
                            | true =>
                              clear hbb
                              go_wp2_with fail
                              go_big_quiet (fail)
                              go_wp2_with fail
                              go_roundw
                              case rel => exact ⟨i + 1, by go_num, by omega, HNX.out, _, rfl⟩
                              case measure => simp [intOf]; omega
                    · have hiz : ¬ (i : Int) < (k : Int) := by omega
                      have hik' : i = k := by omega
                      have HFIN := Lib.hid (HMORE.out HF2.out (by have h := HLB.out; rw [hik', List.take_of_length_le (by rw [Fr.nms_len, ← HK1.out]; exact Nat.le_refl _)] at h; exact h))
                      have hwk : wrap64 ((k : Int) + 1) = ((k + 1 : Nat) : Int) := by unfold wrap64; omega
                      clear HBAD HMORE hik'
                      go_wp2_with fail
                      go_roundw
                      case rel => exact ⟨k + 1, done.app (.cons y (.cons x1 k1 .nil) .nil), r, by go_num, by rw [Fr.len_app, HK1.out]; rfl, by rw [HKS.out, Fr.app_cons], HFIN.out, HN.out, _, rfl⟩
                      case measure => simp [intOf]; omega
              · have HR0 : Hid (R = false) := Lib.hid (by
                  rw [← HR.out, HKS.out]
                  refine HBAD.out (.inl ?_)
                  rw [HFD.out]
                  cases h : (M == 1) with
                  | false => simp
                  | true => exact absurd (beq_iff_eq.1 h) a4)
                have z3 : ¬ (M : Int) = 1 := by omega
                clear hkid2 HBAD HMORE HFD hLB hb hK hY a2 a3 a4 hM
                subst a1
                go_wp2_with fail
                refine cP.mono ?_
                rintro e w' ⟨rfl, rfl⟩
                go_wp2_with fail
                go_ret
                exact drb _ HR0.out.symm
      · have HR0 : Hid (R = false) := Lib.hid (by
          rw [← HR.out, HKS.out]
          refine HBAD.out (.inl ?_)
          rw [HFD.out]
          cases h : (K == kd) with
          | false => rfl
          | true => exact absurd (beq_iff_eq.1 h) a1)
        clear hkid2 HBAD HMORE HFD hLB hb hK hY hM cP
        go_wp2_with fail
        go_ret
        exact drb _ HR0.out.symm
    · have e0 : rest = .nil := by
        cases rest with
        | nil => rfl
        | cons y l r => exact absurd (Nat.succ_pos _) hlt
      subst e0
      have hkN : N = k := by rw [hl, hk]; rfl
      have hkz : ¬ (k : Int) < (N : Int) := by omega
      have HR0 : Hid (R = true) := Lib.hid (by rw [← HR.out, HKS.out, Fr.app_nil]; exact HOK.out)
      clear hkid hks hk hl hs hsz hkN
      go_wp2_with fail
      go_ret
      exact drb _ HR0.out.symm
end Go.Proofs.YtmiicfdigkkbdaaDoor
