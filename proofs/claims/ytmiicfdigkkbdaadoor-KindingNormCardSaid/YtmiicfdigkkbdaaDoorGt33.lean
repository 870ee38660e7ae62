/-
  Layer 10, the program's side: write, Show.
-/
import Derived.Test.YtmiicfdigkkbdaaDoorGt32
import Derived.Lib.AppendIntMem
namespace Go.Proofs.YtmiicfdigkkbdaaDoor
open Go.RowKit

section
variable {n : Nat} {W : World} {bw : Nat} {S0 : Nat → Prop} {X : Nat → Obj → Prop}
theorem row1 (hwr : WrAt n W bw S0) (hB : W.heap.size ≤ bw) {A : Option Addr} {c : Nat} {ks : Fr} (hkid : Kid W S0 A ks 0) (hz : ks.sz ≤ n) (hno : ks.nmo) (s : ByteArray) (w : World) (ts : List ByteArray) (hu : Up W w) (hw : Wr bw X w ts) (hl : ts.length + 5 * ks.sz ≤ 1000000) :
    Calls Tryd.prog 75 #[.pointer (some ⟨bw, 0, none⟩), .slice A ks.len c, .slice (some ⟨w.heap.size, 0, none⟩) 1 1] (w.alloc (.cells #[.string s] 9)) (WrP W bw X (ts ++ tkG [s] true ks.tk)) := by
  have h := hw.keep (.cells #[.string s] 9)
  refine (pRow hwr hB hkid hz hno _ (.inr ⟨w.heap.size, s, rfl, rfl, .inr ⟨rfl, rfl⟩⟩) _ ts (hu.alloc _) h hl (c := c)).mono fun e w' ⟨h1, h2, h3⟩ => ⟨h1, h2, h3.drop fun _ _ h => .inl h⟩
theorem row0 (hwr : WrAt n W bw S0) (hB : W.heap.size ≤ bw) {A : Option Addr} {c : Nat} {ks : Fr} (hkid : Kid W S0 A ks 0) (hz : ks.sz ≤ n) (hno : ks.nmo) (w : World) (ts : List ByteArray) (hu : Up W w) (hw : Wr bw X w ts) (hl : ts.length + 5 * ks.sz ≤ 1000000) :
    Calls Tryd.prog 75 #[.pointer (some ⟨bw, 0, none⟩), .slice A ks.len c, .slice none 0 0] w (WrP W bw X (ts ++ tkG [] true ks.tk)) :=
  pRow hwr hB hkid hz hno X (.inl ⟨rfl, rfl⟩) w ts hu hw hl
theorem tkG_sz {sep : List ByteArray} (hs : sep.length ≤ 1) (ks : Fr) : (tkG sep true ks.tk).length ≤ 5 * ks.sz := Nat.le_trans (tkG_len hs ks.tk true) (Fr.tk_len ks)
set_option maxHeartbeats 6400000 in
set_option maxRecDepth 100000 in
theorem pBinder (hwr : WrAt n W bw S0) (hB : W.heap.size ≤ bw) {v : Value} {x : Nod} {ks : Fr} (hin : InT W S0 v (x, ks)) (hz : ks.sz ≤ n) (hno : ks.nmo) (word : ByteArray) (w : World) (ts : List ByteArray) (hu : Up W w) (hw : Wr bw X w ts) (hl : ts.length + 2 + 5 * ks.sz ≤ 1000000) :
    Calls Tryd.prog 76 #[.pointer (some ⟨bw, 0, none⟩), .string word, v] w (WrP W bw X (ts ++ [⟨#[40]⟩, word] ++ tkG [⟨#[46]⟩] true ks.tk ++ [⟨#[41]⟩])) := by
  obtain ⟨q, p, A, c, rfl, hq1, c0, c1, c2, c3, c4, hc, hkid⟩ := hin.open
  have hg := tkG_sz (sep := [⟨#[46]⟩]) (by simp) ks
  have l1 : (ts ++ [⟨#[40]⟩, word]).length = ts.length + 2 := by rw [List.length_append]; rfl
  have l2 : (ts ++ [⟨#[40]⟩, word] ++ tkG [⟨#[46]⟩] true ks.tk).length = ts.length + 2 + (tkG [⟨#[46]⟩] true ks.tk).length := by rw [List.length_append, l1]
  have C1 := Lib.hid (put2 (X := X) (⟨#[40]⟩ : ByteArray) word hB hu hw (by omega))
  have C2 := Lib.hid (fun w1 (a : Up W w1) (b : Wr bw X w1 (ts ++ [⟨#[40]⟩, word])) => row1 hwr hB hkid hz hno (⟨#[46]⟩ : ByteArray) w1 _ a b (by rw [l1]; omega) (c := c))
  have C3 := Lib.hid (fun w2 (a : Up W w2) (b : Wr bw X w2 (ts ++ [⟨#[40]⟩, word] ++ tkG [⟨#[46]⟩] true ks.tk)) => put1 (⟨#[41]⟩ : ByteArray) hB a b (by rw [l2]; omega))
  obtain ⟨N, hN⟩ : ∃ N, ks.len = N := ⟨_, rfl⟩
  rw [hN] at C2 c4
  obtain ⟨R, hR⟩ : ∃ R, ts ++ [⟨#[40]⟩, word] ++ tkG [⟨#[46]⟩] true ks.tk = R := ⟨_, rfl⟩
  rw [hR] at C2 C3 ⊢
  obtain ⟨R1, hR1⟩ : ∃ R, ts ++ [⟨#[40]⟩, word] = R := ⟨_, rfl⟩
  rw [hR1] at C1 C2
  clear hR hR1 hN hg l1 l2 hkid hin hc c0 c1 c2 c3 hl hz hno hwr
  have c4w := hu.cell c4
  have HC4 := Lib.hid c4
  clear c4
  go_enter Tryd.func76, Tryd.ntmps76
  go_wp2_with fail
  refine C1.out.mono ?_
  rintro e w1 ⟨⟨v1, rfl⟩, u1, h1⟩
  have C2 := C2.out w1 u1 h1
  have c41 := u1.cell HC4.out
  clear h1
  go_wp2_with fail
  refine C2.mono ?_
  rintro e w2 ⟨⟨v2, rfl⟩, u2, h2⟩
  have C3 := C3.out w2 u2 h2
  clear h2
  go_wp2_with fail
  refine C3.mono ?_
  rintro e w3 ⟨⟨v3, rfl⟩, u3, h3⟩
  go_wp2_with fail
  go_end0
  exact ⟨⟨_, rfl⟩, u3, h3⟩
end
set_option maxHeartbeats 25600000 in
set_option maxRecDepth 100000 in
theorem pWriteK {n : Nat} {W : World} {bw : Nat} {S0 : Nat → Prop} (hwr : WrAt n W bw S0) (hB : W.heap.size ≤ bw) (_hS : Bel S0 W.heap.size) (hpw : Pw W) : WrAt (n + 1) W bw S0 := by
  rintro ⟨x, ks⟩ hn ⟨hnv, hno⟩ X w ts v hu hw hl hin
  have HIN := Lib.hid hin
  obtain ⟨q, p, A, c, rfl, hq1, d0, d1, d2, d3, c4, hc, hkid⟩ := hin.open
  have hsz : szT (x, ks) = 1 + ks.sz := rfl
  have hz : ks.sz ≤ n := by omega
  have hno : ks.nmo := hno
  have hl : ts.length + 5 + 5 * ks.sz ≤ 1000000 := by omega
  have c0 := hu.cell d0
  have c1 := hu.cell d1
  have c2 := hu.cell d2
  have hnv : x.k = 110 → 0 ≤ x.n ∧ x.n ≤ 65536 := hnv
  obtain ⟨Y, hY⟩ : ∃ Y, x.a = Y := ⟨_, rfl⟩
  rw [hY] at c2
  show Calls _ _ _ w (WrP W bw X (ts ++ ndK x ks.tk))
  clear d0 d1 d2 d3 hc hsz hn hin _hS hq1
  by_cases hK : x.k = 100
  · rw [hK] at c0
    clear hY
    clear hnv hpw
    have e : ndK x ks.tk = [⟨#[42]⟩] := by unfold ndK; rw [hK]; rfl
    rw [e]
    have C1 := Lib.hid (put1 (X := X) (⟨#[42]⟩ : ByteArray) hB hu hw (by omega))
    clear e hkid hl hz hno hwr c4 c1 c2 hK
    go_enter Tryd.func43, Tryd.ntmps43
    go_wp2_with fail
    refine C1.out.mono ?_
    rintro e w1 ⟨⟨v1, rfl⟩, u1, h1⟩
    go_wp2_with fail
    go_end0
    exact ⟨⟨_, rfl⟩, u1, h1⟩
  have n100 : ¬ x.k = 100 := hK
  clear hK
  by_cases hK : x.k = 110
  · rw [hK] at c0
    clear hY
    have hn := hnv hK
    obtain ⟨Z, hZ⟩ : ∃ Z, x.n = Z := ⟨_, rfl⟩
    rw [hZ] at c1 hn
    have e : ndK x ks.tk = [⟨#[36]⟩ ++ ⟨(Lib.itoa Z).toArray⟩] := by unfold ndK; rw [hK, hZ]; rfl
    rw [e]
    have hil := Lib.itoa_length_le Z (by omega) (by omega)
    have cI := Tryd.strconv_Itoa Z (by omega) (by omega) w (hpw.up hu)
    obtain ⟨Y, hY⟩ : ∃ Y : ByteArray, Y = ⟨(Lib.itoa Z).toArray⟩ := ⟨_, rfl⟩
    have hYs : Y.size ≤ 100 := by rw [hY, Lib.size_eq]; simp; omega
    rw [← hY] at cI ⊢
    have C1 := Lib.hid (fun w1 (a : Up W w1) (b : Wr bw X w1 ts) => put1 (⟨#[36]⟩ ++ Y) hB a b (by omega))
    have HW := Lib.hid hw
    have HU := Lib.hid hu
    clear e hkid hl hz hno hwr c4 c2 hK hZ hY hil hw hpw
    go_enter Tryd.func43, Tryd.ntmps43
    go_wp2_with fail
    refine cI.mono ?_
    rintro e w1 ⟨rfl, k, os, hw1⟩
    have u1 : Up w w1 := by rw [hw1]; exact Lib.below_grow _ _ (Nat.le_refl _) k os
    have C1 := C1.out w1 (HU.out.trans u1) (HW.out.up u1)
    clear hw1 cI
    go_wp2_with fail
    refine C1.mono ?_
    rintro e w2 ⟨⟨v2, rfl⟩, u2, h2⟩
    go_wp2_with fail
    go_end0
    exact ⟨⟨_, rfl⟩, u2, h2⟩
  have n110 : ¬ x.k = 110 := hK
  clear hK
  by_cases hK : x.k = 111
  · rw [hK] at c0
    clear hY
    clear hnv hpw
    have e : ndK x ks.tk = [⟨#[105, 110, 116]⟩] := by unfold ndK; rw [hK]; rfl
    rw [e]
    have C1 := Lib.hid (put1 (X := X) (⟨#[105, 110, 116]⟩ : ByteArray) hB hu hw (by omega))
    clear e hkid hl hz hno hwr c4 c1 c2 hK
    go_enter Tryd.func43, Tryd.ntmps43
    go_wp2_with fail
    refine C1.out.mono ?_
    rintro e w1 ⟨⟨v1, rfl⟩, u1, h1⟩
    go_wp2_with fail
    go_end0
    exact ⟨⟨_, rfl⟩, u1, h1⟩
  have n111 : ¬ x.k = 111 := hK
  clear hK
  by_cases hK : x.k = 112
  · rw [hK] at c0
    clear hY
    clear hnv hpw
    have e : ndK x ks.tk = [⟨#[98, 111, 111, 108]⟩] := by unfold ndK; rw [hK]; rfl
    rw [e]
    have C1 := Lib.hid (put1 (X := X) (⟨#[98, 111, 111, 108]⟩ : ByteArray) hB hu hw (by omega))
    clear e hkid hl hz hno hwr c4 c1 c2 hK
    go_enter Tryd.func43, Tryd.ntmps43
    go_wp2_with fail
    refine C1.out.mono ?_
    rintro e w1 ⟨⟨v1, rfl⟩, u1, h1⟩
    go_wp2_with fail
    go_end0
    exact ⟨⟨_, rfl⟩, u1, h1⟩
  have n112 : ¬ x.k = 112 := hK
  clear hK
  by_cases hK : x.k = 113
  · rw [hK] at c0
    clear hY
    clear hnv hpw
    have e : ndK x ks.tk = [⟨#[117, 110, 105, 116]⟩] := by unfold ndK; rw [hK]; rfl
    rw [e]
    have C1 := Lib.hid (put1 (X := X) (⟨#[117, 110, 105, 116]⟩ : ByteArray) hB hu hw (by omega))
    clear e hkid hl hz hno hwr c4 c1 c2 hK
    go_enter Tryd.func43, Tryd.ntmps43
    go_wp2_with fail
    refine C1.out.mono ?_
    rintro e w1 ⟨⟨v1, rfl⟩, u1, h1⟩
    go_wp2_with fail
    go_end0
    exact ⟨⟨_, rfl⟩, u1, h1⟩
  have n113 : ¬ x.k = 113 := hK
  clear hK
  by_cases hK : x.k = 101
  · rw [hK] at c0
    clear hY
    clear hnv hpw
    have e : ndK x ks.tk = [(⟨#[40]⟩ : ByteArray)] ++ tkG [(⟨#[45, 62]⟩ : ByteArray)] true ks.tk ++ [⟨#[41]⟩] := by unfold ndK; rw [hK]; rfl
    have hg := tkG_sz (sep := [(⟨#[45, 62]⟩ : ByteArray)]) (by simp) ks
    have l1 : (ts ++ [(⟨#[40]⟩ : ByteArray)]).length = ts.length + 1 := by rw [List.length_append]; rfl
    have C1 := Lib.hid (put1 (X := X) (⟨#[40]⟩ : ByteArray) hB hu hw (by omega))
    have C2 := Lib.hid (fun w1 (a : Up W w1) (b : Wr bw X w1 (ts ++ [(⟨#[40]⟩ : ByteArray)])) => row1 hwr hB hkid hz hno (⟨#[45, 62]⟩ : ByteArray) w1 _ a b (by rw [l1]; omega) (c := c))
    have l2 : (ts ++ [(⟨#[40]⟩ : ByteArray)] ++ tkG [(⟨#[45, 62]⟩ : ByteArray)] true ks.tk).length = ts.length + 1 + (tkG [(⟨#[45, 62]⟩ : ByteArray)] true ks.tk).length := by rw [List.length_append, l1]
    have C3 := Lib.hid (fun w2 (a : Up W w2) (b : Wr bw X w2 (ts ++ [(⟨#[40]⟩ : ByteArray)] ++ tkG [(⟨#[45, 62]⟩ : ByteArray)] true ks.tk)) => put1 (⟨#[41]⟩ : ByteArray) hB a b (by rw [l2]; omega))
    rw [e, ← List.append_assoc, ← List.append_assoc]
    obtain ⟨N, hN⟩ : ∃ N, ks.len = N := ⟨_, rfl⟩
    rw [hN] at C2 c4
    obtain ⟨R, hR⟩ : ∃ R, ts ++ [(⟨#[40]⟩ : ByteArray)] ++ tkG [(⟨#[45, 62]⟩ : ByteArray)] true ks.tk = R := ⟨_, rfl⟩
    rw [hR] at C2 C3 ⊢
    obtain ⟨R1, hR1⟩ : ∃ R, ts ++ [(⟨#[40]⟩ : ByteArray)] = R := ⟨_, rfl⟩
    rw [hR1] at C1 C2
    have c4w := hu.cell c4
    have HC4 := Lib.hid c4
    clear hR hR1 hN hg l1 l2 hkid hl hz hno hwr e c4 c1 c2 hK
    go_enter Tryd.func43, Tryd.ntmps43
    go_wp2_with fail
    refine C1.out.mono ?_
    rintro e w1 ⟨⟨v1, rfl⟩, u1, h1⟩
    have C2 := C2.out w1 u1 h1
    have c41 := u1.cell HC4.out
    clear h1
    go_wp2_with fail
    refine C2.mono ?_
    rintro e w2 ⟨⟨v2, rfl⟩, u2, h2⟩
    have C3 := C3.out w2 u2 h2
    clear h2
    go_wp2_with fail
    refine C3.mono ?_
    rintro e w3 ⟨⟨v3, rfl⟩, u3, h3⟩
    go_wp2_with fail
    go_end0
    exact ⟨⟨_, rfl⟩, u3, h3⟩
  have n101 : ¬ x.k = 101 := hK
  clear hK
  by_cases hK : x.k = 114
  · rw [hK] at c0
    clear hY
    clear hnv hpw
    have e : ndK x ks.tk = [(⟨#[40]⟩ : ByteArray)] ++ tkG [(⟨#[45, 62]⟩ : ByteArray)] true ks.tk ++ [⟨#[41]⟩] := by unfold ndK; rw [hK]; rfl
    have hg := tkG_sz (sep := [(⟨#[45, 62]⟩ : ByteArray)]) (by simp) ks
    have l1 : (ts ++ [(⟨#[40]⟩ : ByteArray)]).length = ts.length + 1 := by rw [List.length_append]; rfl
    have C1 := Lib.hid (put1 (X := X) (⟨#[40]⟩ : ByteArray) hB hu hw (by omega))
    have C2 := Lib.hid (fun w1 (a : Up W w1) (b : Wr bw X w1 (ts ++ [(⟨#[40]⟩ : ByteArray)])) => row1 hwr hB hkid hz hno (⟨#[45, 62]⟩ : ByteArray) w1 _ a b (by rw [l1]; omega) (c := c))
    have l2 : (ts ++ [(⟨#[40]⟩ : ByteArray)] ++ tkG [(⟨#[45, 62]⟩ : ByteArray)] true ks.tk).length = ts.length + 1 + (tkG [(⟨#[45, 62]⟩ : ByteArray)] true ks.tk).length := by rw [List.length_append, l1]
    have C3 := Lib.hid (fun w2 (a : Up W w2) (b : Wr bw X w2 (ts ++ [(⟨#[40]⟩ : ByteArray)] ++ tkG [(⟨#[45, 62]⟩ : ByteArray)] true ks.tk)) => put1 (⟨#[41]⟩ : ByteArray) hB a b (by rw [l2]; omega))
    rw [e, ← List.append_assoc, ← List.append_assoc]
    obtain ⟨N, hN⟩ : ∃ N, ks.len = N := ⟨_, rfl⟩
    rw [hN] at C2 c4
    obtain ⟨R, hR⟩ : ∃ R, ts ++ [(⟨#[40]⟩ : ByteArray)] ++ tkG [(⟨#[45, 62]⟩ : ByteArray)] true ks.tk = R := ⟨_, rfl⟩
    rw [hR] at C2 C3 ⊢
    obtain ⟨R1, hR1⟩ : ∃ R, ts ++ [(⟨#[40]⟩ : ByteArray)] = R := ⟨_, rfl⟩
    rw [hR1] at C1 C2
    have c4w := hu.cell c4
    have HC4 := Lib.hid c4
    clear hR hR1 hN hg l1 l2 hkid hl hz hno hwr e c4 c1 c2 hK
    go_enter Tryd.func43, Tryd.ntmps43
    go_wp2_with fail
    refine C1.out.mono ?_
    rintro e w1 ⟨⟨v1, rfl⟩, u1, h1⟩
    have C2 := C2.out w1 u1 h1
    have c41 := u1.cell HC4.out
    clear h1
    go_wp2_with fail
    refine C2.mono ?_
    rintro e w2 ⟨⟨v2, rfl⟩, u2, h2⟩
    have C3 := C3.out w2 u2 h2
    clear h2
    go_wp2_with fail
    refine C3.mono ?_
    rintro e w3 ⟨⟨v3, rfl⟩, u3, h3⟩
    go_wp2_with fail
    go_end0
    exact ⟨⟨_, rfl⟩, u3, h3⟩
  have n114 : ¬ x.k = 114 := hK
  clear hK
  by_cases hK : x.k = 120
  · rw [hK] at c0
    clear hY
    clear hnv hpw
    have e : ndK x ks.tk = [(⟨#[40]⟩ : ByteArray)] ++ tkG [] true ks.tk ++ [⟨#[41]⟩] := by unfold ndK; rw [hK]; rfl
    have hg := tkG_sz (sep := []) (by simp) ks
    have l1 : (ts ++ [(⟨#[40]⟩ : ByteArray)]).length = ts.length + 1 := by rw [List.length_append]; rfl
    have C1 := Lib.hid (put1 (X := X) (⟨#[40]⟩ : ByteArray) hB hu hw (by omega))
    have C2 := Lib.hid (fun w1 (a : Up W w1) (b : Wr bw X w1 (ts ++ [(⟨#[40]⟩ : ByteArray)])) => row0 hwr hB hkid hz hno w1 _ a b (by rw [l1]; omega) (c := c))
    have l2 : (ts ++ [(⟨#[40]⟩ : ByteArray)] ++ tkG [] true ks.tk).length = ts.length + 1 + (tkG [] true ks.tk).length := by rw [List.length_append, l1]
    have C3 := Lib.hid (fun w2 (a : Up W w2) (b : Wr bw X w2 (ts ++ [(⟨#[40]⟩ : ByteArray)] ++ tkG [] true ks.tk)) => put1 (⟨#[41]⟩ : ByteArray) hB a b (by rw [l2]; omega))
    rw [e, ← List.append_assoc, ← List.append_assoc]
    obtain ⟨N, hN⟩ : ∃ N, ks.len = N := ⟨_, rfl⟩
    rw [hN] at C2 c4
    obtain ⟨R, hR⟩ : ∃ R, ts ++ [(⟨#[40]⟩ : ByteArray)] ++ tkG [] true ks.tk = R := ⟨_, rfl⟩
    rw [hR] at C2 C3 ⊢
    obtain ⟨R1, hR1⟩ : ∃ R, ts ++ [(⟨#[40]⟩ : ByteArray)] = R := ⟨_, rfl⟩
    rw [hR1] at C1 C2
    have c4w := hu.cell c4
    have HC4 := Lib.hid c4
    clear hR hR1 hN hg l1 l2 hkid hl hz hno hwr e c4 c1 c2 hK
    go_enter Tryd.func43, Tryd.ntmps43
    go_wp2_with fail
    refine C1.out.mono ?_
    rintro e w1 ⟨⟨v1, rfl⟩, u1, h1⟩
    have C2 := C2.out w1 u1 h1
    have c41 := u1.cell HC4.out
    clear h1
    go_wp2_with fail
    refine C2.mono ?_
    rintro e w2 ⟨⟨v2, rfl⟩, u2, h2⟩
    have C3 := C3.out w2 u2 h2
    clear h2
    go_wp2_with fail
    refine C3.mono ?_
    rintro e w3 ⟨⟨v3, rfl⟩, u3, h3⟩
    go_wp2_with fail
    go_end0
    exact ⟨⟨_, rfl⟩, u3, h3⟩
  have n120 : ¬ x.k = 120 := hK
  clear hK
  by_cases hK : x.k = 115
  · rw [hK] at c0
    clear hY
    clear hnv hpw
    have e : ndK x ks.tk = [(⟨#[123]⟩ : ByteArray)] ++ tkG [(⟨#[44]⟩ : ByteArray)] true ks.tk ++ [⟨#[125]⟩] := by unfold ndK; rw [hK]; rfl
    have hg := tkG_sz (sep := [(⟨#[44]⟩ : ByteArray)]) (by simp) ks
    have l1 : (ts ++ [(⟨#[123]⟩ : ByteArray)]).length = ts.length + 1 := by rw [List.length_append]; rfl
    have C1 := Lib.hid (put1 (X := X) (⟨#[123]⟩ : ByteArray) hB hu hw (by omega))
    have C2 := Lib.hid (fun w1 (a : Up W w1) (b : Wr bw X w1 (ts ++ [(⟨#[123]⟩ : ByteArray)])) => row1 hwr hB hkid hz hno (⟨#[44]⟩ : ByteArray) w1 _ a b (by rw [l1]; omega) (c := c))
    have l2 : (ts ++ [(⟨#[123]⟩ : ByteArray)] ++ tkG [(⟨#[44]⟩ : ByteArray)] true ks.tk).length = ts.length + 1 + (tkG [(⟨#[44]⟩ : ByteArray)] true ks.tk).length := by rw [List.length_append, l1]
    have C3 := Lib.hid (fun w2 (a : Up W w2) (b : Wr bw X w2 (ts ++ [(⟨#[123]⟩ : ByteArray)] ++ tkG [(⟨#[44]⟩ : ByteArray)] true ks.tk)) => put1 (⟨#[125]⟩ : ByteArray) hB a b (by rw [l2]; omega))
    rw [e, ← List.append_assoc, ← List.append_assoc]
    obtain ⟨N, hN⟩ : ∃ N, ks.len = N := ⟨_, rfl⟩
    rw [hN] at C2 c4
    obtain ⟨R, hR⟩ : ∃ R, ts ++ [(⟨#[123]⟩ : ByteArray)] ++ tkG [(⟨#[44]⟩ : ByteArray)] true ks.tk = R := ⟨_, rfl⟩
    rw [hR] at C2 C3 ⊢
    obtain ⟨R1, hR1⟩ : ∃ R, ts ++ [(⟨#[123]⟩ : ByteArray)] = R := ⟨_, rfl⟩
    rw [hR1] at C1 C2
    have c4w := hu.cell c4
    have HC4 := Lib.hid c4
    clear hR hR1 hN hg l1 l2 hkid hl hz hno hwr e c4 c1 c2 hK
    go_enter Tryd.func43, Tryd.ntmps43
    go_wp2_with fail
    refine C1.out.mono ?_
    rintro e w1 ⟨⟨v1, rfl⟩, u1, h1⟩
    have C2 := C2.out w1 u1 h1
    have c41 := u1.cell HC4.out
    clear h1
    go_wp2_with fail
    refine C2.mono ?_
    rintro e w2 ⟨⟨v2, rfl⟩, u2, h2⟩
    have C3 := C3.out w2 u2 h2
    clear h2
    go_wp2_with fail
    refine C3.mono ?_
    rintro e w3 ⟨⟨v3, rfl⟩, u3, h3⟩
    go_wp2_with fail
    go_end0
    exact ⟨⟨_, rfl⟩, u3, h3⟩
  have n115 : ¬ x.k = 115 := hK
  clear hK
  by_cases hK : x.k = 116
  · rw [hK] at c0
    clear hnv hpw
    have e : ndK x ks.tk = [Y, (⟨#[61]⟩ : ByteArray)] ++ tkG [] true ks.tk := by unfold ndK; rw [hK]; rw [← hY]; rfl
    have hg := tkG_sz (sep := []) (by simp) ks
    have l1 : (ts ++ [Y, (⟨#[61]⟩ : ByteArray)]).length = ts.length + 2 := by rw [List.length_append]; rfl
    have C1 := Lib.hid (put2 (X := X) Y (⟨#[61]⟩ : ByteArray) hB hu hw (by omega))
    have C2 := Lib.hid (fun w1 (a : Up W w1) (b : Wr bw X w1 (ts ++ [Y, (⟨#[61]⟩ : ByteArray)])) => row0 hwr hB hkid hz hno w1 _ a b (by rw [l1]; omega) (c := c))
    rw [e, ← List.append_assoc]
    obtain ⟨N, hN⟩ : ∃ N, ks.len = N := ⟨_, rfl⟩
    rw [hN] at C2 c4
    obtain ⟨R, hR⟩ : ∃ R, ts ++ [Y, (⟨#[61]⟩ : ByteArray)] ++ tkG [] true ks.tk = R := ⟨_, rfl⟩
    rw [hR] at C2 ⊢
    obtain ⟨R1, hR1⟩ : ∃ R, ts ++ [Y, (⟨#[61]⟩ : ByteArray)] = R := ⟨_, rfl⟩
    rw [hR1] at C1 C2
    have c4w := hu.cell c4
    have HC4 := Lib.hid c4
    clear hR hR1 hN hg l1 hkid hl hz hno hwr e c4 c1 hK
    go_enter Tryd.func43, Tryd.ntmps43
    go_wp2_with fail
    refine C1.out.mono ?_
    rintro e w1 ⟨⟨v1, rfl⟩, u1, h1⟩
    have C2 := C2.out w1 u1 h1
    have c41 := u1.cell HC4.out
    clear h1
    go_wp2_with fail
    refine C2.mono ?_
    rintro e w2 ⟨⟨v2, rfl⟩, u2, h2⟩
    go_wp2_with fail
    go_end0
    exact ⟨⟨_, rfl⟩, u2, h2⟩
  have n116 : ¬ x.k = 116 := hK
  clear hK
  by_cases hK : x.k = 117
  · rw [hK] at c0
    clear hY
    clear hnv hpw
    have e : ndK x ks.tk = [⟨#[40]⟩, ⟨#[97, 108, 108]⟩] ++ tkG [⟨#[46]⟩] true ks.tk ++ [⟨#[41]⟩] := by unfold ndK; rw [hK]; rfl
    rw [e, ← List.append_assoc, ← List.append_assoc]
    have C1 := Lib.hid (pBinder (X := X) hwr hB HIN.out hz hno (⟨#[97, 108, 108]⟩ : ByteArray) w ts hu hw (by omega))
    obtain ⟨R, hR⟩ : ∃ R, ts ++ [⟨#[40]⟩, ⟨#[97, 108, 108]⟩] ++ tkG [⟨#[46]⟩] true ks.tk ++ [⟨#[41]⟩] = R := ⟨_, rfl⟩
    rw [hR] at C1 ⊢
    clear e hkid hl hz hno hwr c4 c1 c2 hK hR
    go_enter Tryd.func43, Tryd.ntmps43
    go_wp2_with fail
    refine C1.out.mono ?_
    rintro e w1 ⟨⟨v1, rfl⟩, u1, h1⟩
    go_wp2_with fail
    go_end0
    exact ⟨⟨_, rfl⟩, u1, h1⟩
  have n117 : ¬ x.k = 117 := hK
  clear hK
  by_cases hK : x.k = 118
  · rw [hK] at c0
    clear hY
    clear hnv hpw
    have e : ndK x ks.tk = [⟨#[40]⟩, ⟨#[101, 120]⟩] ++ tkG [⟨#[46]⟩] true ks.tk ++ [⟨#[41]⟩] := by unfold ndK; rw [hK]; rfl
    rw [e, ← List.append_assoc, ← List.append_assoc]
    have C1 := Lib.hid (pBinder (X := X) hwr hB HIN.out hz hno (⟨#[101, 120]⟩ : ByteArray) w ts hu hw (by omega))
    obtain ⟨R, hR⟩ : ∃ R, ts ++ [⟨#[40]⟩, ⟨#[101, 120]⟩] ++ tkG [⟨#[46]⟩] true ks.tk ++ [⟨#[41]⟩] = R := ⟨_, rfl⟩
    rw [hR] at C1 ⊢
    clear e hkid hl hz hno hwr c4 c1 c2 hK hR
    go_enter Tryd.func43, Tryd.ntmps43
    go_wp2_with fail
    refine C1.out.mono ?_
    rintro e w1 ⟨⟨v1, rfl⟩, u1, h1⟩
    go_wp2_with fail
    go_end0
    exact ⟨⟨_, rfl⟩, u1, h1⟩
  have n118 : ¬ x.k = 118 := hK
  clear hK
  by_cases hK : x.k = 119
  · rw [hK] at c0
    clear hY
    clear hnv hpw
    have e : ndK x ks.tk = [⟨#[40]⟩, ⟨#[102, 110]⟩] ++ tkG [⟨#[46]⟩] true ks.tk ++ [⟨#[41]⟩] := by unfold ndK; rw [hK]; rfl
    rw [e, ← List.append_assoc, ← List.append_assoc]
    have C1 := Lib.hid (pBinder (X := X) hwr hB HIN.out hz hno (⟨#[102, 110]⟩ : ByteArray) w ts hu hw (by omega))
    obtain ⟨R, hR⟩ : ∃ R, ts ++ [⟨#[40]⟩, ⟨#[102, 110]⟩] ++ tkG [⟨#[46]⟩] true ks.tk ++ [⟨#[41]⟩] = R := ⟨_, rfl⟩
    rw [hR] at C1 ⊢
    clear e hkid hl hz hno hwr c4 c1 c2 hK hR
    go_enter Tryd.func43, Tryd.ntmps43
    go_wp2_with fail
    refine C1.out.mono ?_
    rintro e w1 ⟨⟨v1, rfl⟩, u1, h1⟩
    go_wp2_with fail
    go_end0
    exact ⟨⟨_, rfl⟩, u1, h1⟩
  have n119 : ¬ x.k = 119 := hK
  clear hK
  by_cases hK : x.k = 121
  · rw [hK] at c0
    clear hY
    clear hnv hpw
    have e : ndK x ks.tk = [(⟨#[109, 117]⟩ : ByteArray), (⟨#[123]⟩ : ByteArray)] ++ tkG [(⟨#[124]⟩ : ByteArray)] true ks.tk ++ [⟨#[125]⟩] := by unfold ndK; rw [hK]; rfl
    have hg := tkG_sz (sep := [(⟨#[124]⟩ : ByteArray)]) (by simp) ks
    have l1 : (ts ++ [(⟨#[109, 117]⟩ : ByteArray), (⟨#[123]⟩ : ByteArray)]).length = ts.length + 2 := by rw [List.length_append]; rfl
    have C1 := Lib.hid (put2 (X := X) (⟨#[109, 117]⟩ : ByteArray) (⟨#[123]⟩ : ByteArray) hB hu hw (by omega))
    have C2 := Lib.hid (fun w1 (a : Up W w1) (b : Wr bw X w1 (ts ++ [(⟨#[109, 117]⟩ : ByteArray), (⟨#[123]⟩ : ByteArray)])) => row1 hwr hB hkid hz hno (⟨#[124]⟩ : ByteArray) w1 _ a b (by rw [l1]; omega) (c := c))
    have l2 : (ts ++ [(⟨#[109, 117]⟩ : ByteArray), (⟨#[123]⟩ : ByteArray)] ++ tkG [(⟨#[124]⟩ : ByteArray)] true ks.tk).length = ts.length + 2 + (tkG [(⟨#[124]⟩ : ByteArray)] true ks.tk).length := by rw [List.length_append, l1]
    have C3 := Lib.hid (fun w2 (a : Up W w2) (b : Wr bw X w2 (ts ++ [(⟨#[109, 117]⟩ : ByteArray), (⟨#[123]⟩ : ByteArray)] ++ tkG [(⟨#[124]⟩ : ByteArray)] true ks.tk)) => put1 (⟨#[125]⟩ : ByteArray) hB a b (by rw [l2]; omega))
    rw [e, ← List.append_assoc, ← List.append_assoc]
    obtain ⟨N, hN⟩ : ∃ N, ks.len = N := ⟨_, rfl⟩
    rw [hN] at C2 c4
    obtain ⟨R, hR⟩ : ∃ R, ts ++ [(⟨#[109, 117]⟩ : ByteArray), (⟨#[123]⟩ : ByteArray)] ++ tkG [(⟨#[124]⟩ : ByteArray)] true ks.tk = R := ⟨_, rfl⟩
    rw [hR] at C2 C3 ⊢
    obtain ⟨R1, hR1⟩ : ∃ R, ts ++ [(⟨#[109, 117]⟩ : ByteArray), (⟨#[123]⟩ : ByteArray)] = R := ⟨_, rfl⟩
    rw [hR1] at C1 C2
    have c4w := hu.cell c4
    have HC4 := Lib.hid c4
    clear hR hR1 hN hg l1 l2 hkid hl hz hno hwr e c4 c1 c2 hK
    go_enter Tryd.func43, Tryd.ntmps43
    go_wp2_with fail
    refine C1.out.mono ?_
    rintro e w1 ⟨⟨v1, rfl⟩, u1, h1⟩
    have C2 := C2.out w1 u1 h1
    have c41 := u1.cell HC4.out
    clear h1
    go_wp2_with fail
    refine C2.mono ?_
    rintro e w2 ⟨⟨v2, rfl⟩, u2, h2⟩
    have C3 := C3.out w2 u2 h2
    clear h2
    go_wp2_with fail
    refine C3.mono ?_
    rintro e w3 ⟨⟨v3, rfl⟩, u3, h3⟩
    go_wp2_with fail
    go_end0
    exact ⟨⟨_, rfl⟩, u3, h3⟩
  have n121 : ¬ x.k = 121 := hK
  clear hK
  by_cases hK : x.k = 122
  · rw [hK] at c0
    clear hnv hpw
    have e : ndK x ks.tk = [Y, (⟨#[111, 102]⟩ : ByteArray)] ++ tkG [] true ks.tk := by unfold ndK; rw [hK]; rw [← hY]; rfl
    have hg := tkG_sz (sep := []) (by simp) ks
    have l1 : (ts ++ [Y, (⟨#[111, 102]⟩ : ByteArray)]).length = ts.length + 2 := by rw [List.length_append]; rfl
    have C1 := Lib.hid (put2 (X := X) Y (⟨#[111, 102]⟩ : ByteArray) hB hu hw (by omega))
    have C2 := Lib.hid (fun w1 (a : Up W w1) (b : Wr bw X w1 (ts ++ [Y, (⟨#[111, 102]⟩ : ByteArray)])) => row0 hwr hB hkid hz hno w1 _ a b (by rw [l1]; omega) (c := c))
    rw [e, ← List.append_assoc]
    obtain ⟨N, hN⟩ : ∃ N, ks.len = N := ⟨_, rfl⟩
    rw [hN] at C2 c4
    obtain ⟨R, hR⟩ : ∃ R, ts ++ [Y, (⟨#[111, 102]⟩ : ByteArray)] ++ tkG [] true ks.tk = R := ⟨_, rfl⟩
    rw [hR] at C2 ⊢
    obtain ⟨R1, hR1⟩ : ∃ R, ts ++ [Y, (⟨#[111, 102]⟩ : ByteArray)] = R := ⟨_, rfl⟩
    rw [hR1] at C1 C2
    have c4w := hu.cell c4
    have HC4 := Lib.hid c4
    clear hR hR1 hN hg l1 hkid hl hz hno hwr e c4 c1 hK
    go_enter Tryd.func43, Tryd.ntmps43
    go_wp2_with fail
    refine C1.out.mono ?_
    rintro e w1 ⟨⟨v1, rfl⟩, u1, h1⟩
    have C2 := C2.out w1 u1 h1
    have c41 := u1.cell HC4.out
    clear h1
    go_wp2_with fail
    refine C2.mono ?_
    rintro e w2 ⟨⟨v2, rfl⟩, u2, h2⟩
    go_wp2_with fail
    go_end0
    exact ⟨⟨_, rfl⟩, u2, h2⟩
  have n122 : ¬ x.k = 122 := hK
  clear hK
  have e : ndK x ks.tk = [] := by
    unfold ndK
    rw [if_neg n100, if_neg n110, if_neg n111, if_neg n112, if_neg n113, if_neg (by omega), if_neg n120, if_neg n115, if_neg n116, if_neg n117, if_neg n118, if_neg n119, if_neg n121, if_neg n122]
  rw [e, List.append_nil]
  have HW := Lib.hid hw
  have HU := Lib.hid hu
  obtain ⟨K, hK⟩ : ∃ K, x.k = K := ⟨_, rfl⟩
  rw [hK] at c0 n100 n110 n111 n112 n113 n101 n114 n120 n115 n116 n117 n118 n119 n121 n122
  clear e hkid hl hz hno hwr c4 c1 c2 hK hw hu hY hnv hpw
  go_enter Tryd.func43, Tryd.ntmps43
  go_wp2_with fail
  go_end0
  exact ⟨⟨_, rfl⟩, HU.out, HW.out⟩
theorem pWrite {W : World} {bw : Nat} {S0 : Nat → Prop} (hB : W.heap.size ≤ bw) (hS : Bel S0 W.heap.size) (hpw : Pw W) : ∀ n, WrAt n W bw S0
  | 0 => fun t h => absurd h (by unfold szT; omega)
  | n + 1 => pWriteK (pWrite hB hS hpw n) hB hS hpw
end Go.Proofs.YtmiicfdigkkbdaaDoor
namespace Go.Proofs.YtmiicfdigkkbdaaDoor
open Go.RowKit

theorem swR_of {o : Option Tr} (h : ckE o = 0 ∨ kkE o = 0) : ∃ t, o = some t ∧ szT t ≤ 65536 ∧ (coT t = true ∨ kdT t = true) ∧ swR o = txT t := by
  rcases h with h | h
  · obtain ⟨t, rfl, h1, h2⟩ := ckE_ok h
    exact ⟨t, rfl, h1, .inl h2, if_pos (.inl h)⟩
  · obtain ⟨t, rfl, h1, h2⟩ := kkE_ok h
    exact ⟨t, rfl, h1, .inr h2, if_pos (.inr h)⟩
theorem tno_of {t : Tr} (h : coT t = true ∨ kdT t = true) : tno t := by
  have : (Fr.cons t.1 t.2 .nil).nmo := by
    rcases h with h | h
    · exact co_nmo (m := 0) (by rw [coF_0]; exact (Bool.and_true _).trans h)
    · exact kd_nmo (by rw [kdF_cons]; exact (Bool.and_true _).trans h)
  exact ⟨this.2.1, this.2.2.1⟩
theorem bytes_eq {s : ByteArray} {l : List UInt8} (h : l = s.data.toList) : (⟨l.toArray⟩ : ByteArray) = s := by
  subst h
  cases s
  simp
theorem wr_join {bw : Nat} {X : Nat → Obj → Prop} {w : World} {T : List ByteArray} {Y : ByteArray} (h : Wr bw X w T) (hne : T ≠ []) (hj : jL T = Y.data.toList) (hT : T.length ≤ 1000000) (hY : Y.size ≤ 1000000000) :
    ∃ A n c, w.cell? ⟨bw, 0, none⟩ = some (.slice A n c) ∧ Calls Tryd.prog 44 #[.slice A n c, .string ⟨#[32]⟩] w (StP Y w) := by
  obtain ⟨v, h1, h2, _⟩ := h
  have hlt := h2.lt
  obtain ⟨g, cp, rfl, hle⟩ : ∃ g cp, v = .slice (some ⟨g, 0, none⟩) T.length cp ∧ T.length ≤ cp := by
    rcases h2.2 with ⟨_, h0⟩ | ⟨g, cap, cur, hv, _, _, hcap, _⟩
    · exact absurd (List.length_eq_zero_iff.1 h0) hne
    · exact ⟨g, cap, hv, hcap⟩
  have hcs : ∀ (j : Nat) x, T[j]? = some x → w.cell? ⟨g, 0 + j, none⟩ = some (.string x) := fun j x h => by
    have h9 := h2.cells (g := g) rfl j (.string x) (by rw [List.getElem?_map, h]; rfl)
    have e1 : (⟨g, 0, none⟩ : Addr).add j = ⟨g, 0 + j, none⟩ := by unfold Addr.add; split <;> simp_all
    rwa [e1] at h9
  have hj' : Lib.join (T.map (·.data.toList)) (ByteArray.mk #[32]).data.toList = Y.data.toList := hj
  refine ⟨_, _, cp, cell_of_row w bw 0 _ _ _ h1, ?_⟩
  have cJ := Tryd.strings_Join g 0 cp T ⟨#[32]⟩ w hcs (hlt g rfl).2 (by omega) hle (by rw [hj', ← Lib.size_eq]; omega)
  rw [hj', bytes_eq rfl] at cJ
  exact cJ
set_option maxHeartbeats 6400000 in
set_option maxRecDepth 100000 in
theorem pShow (o : Option Tr) (w : World) (v : Value) (h : HasT w v o) (hz : szO o ≤ 65536) (hpw : Pw w) : Calls Tryd.prog 24 #[v] w (StP (swR o) w) := by
  have cC := pCheck o w v h hz
  have cK := fun W (u : Up w W) => pKind o W v (h.up u) hz
  by_cases h0 : ckE o = 0 ∨ kkE o = 0
  · obtain ⟨t, rfl, hz1, hco, hs⟩ := swR_of h0
    rw [hs]
    obtain ⟨hj, hne⟩ := tkT_text hco
    have htn := tno_of hco
    have hlen := tkT_len t
    have htz : (txT t).size ≤ 210 * szT t := txT_sz htn.1 htn.2
    have cW := fun (W : World) (u : Up w W) => pWrite (W := W) (bw := W.heap.size) (S0 := fun q => q < w.heap.size) (Nat.le_refl _) (fun q hq => Nat.lt_of_lt_of_le hq u.size) (hpw.up u) (szT t) t (Nat.le_refl _) htn (fun _ _ => False) (W.alloc (.cells #[.slice none 0 0] 79)) [] v ((Up.refl W).alloc _)
      ⟨.slice none 0 0, heap_alloc_new W _, World.ownsRow_nil _ _ _ _, fun _ _ h => h.elim⟩ (by show 0 + 5 * szT t ≤ 1000000; omega) (InT.keep (t := t) h (fun _ h => h) fun b hb => u.block b hb)
    obtain ⟨T, hT⟩ : ∃ T, tkT t = T := ⟨_, rfl⟩
    obtain ⟨Y, hY⟩ : ∃ T, txT t = T := ⟨_, rfl⟩
    rw [hT] at cW hj hne hlen
    rw [hY] at hj htz ⊢
    rw [show ([] : List ByteArray) ++ T = T from rfl] at cW
    have hTl : T.length ≤ 1000000 := by omega
    have hYz : Y.size ≤ 1000000000 := by omega
    have CW := Lib.hid cW
    have HJ := Lib.hid hj
    have HNE := Lib.hid hne
    obtain ⟨E, hE⟩ : ∃ E, ckE (some t) = E := ⟨_, rfl⟩
    obtain ⟨D, hD⟩ : ∃ E, kkE (some t) = E := ⟨_, rfl⟩
    rw [hE] at cC h0
    rw [hD] at cK h0
    have CK := Lib.hid cK
    clear hE hD hT hY htn hco hs hz1 hz h hlen htz cW cK hj hne hpw
    by_cases h1 : E = 0
    · subst h1
      go_enter Tryd.func24, Tryd.ntmps24
      go_wp2_with fail
      refine cC.mono ?_
      rintro e w1 ⟨rfl, u1⟩
      have CWW := CW.out w1 u1
      have UU := Lib.hid (u1 : Up w w1)
      go_wp2_with fail
      refine CWW.mono ?_
      rintro e w5 ⟨⟨v5, rfl⟩, u5, hw5⟩
      obtain ⟨A, m, c, k5, cJ⟩ := wr_join hw5 HNE.out HJ.out hTl hYz
      have U5 := Lib.hid u5
      clear u5 hw5
      go_wp2_with fail
      refine cJ.mono ?_
      rintro e w6 ⟨rfl, u6⟩
      go_wp2_with fail
      go_ret
      exact ⟨rfl, (UU.out.trans U5.out).trans u6⟩
    · have h2 : (E != 0) = true := by rw [bne_iff_ne]; exact h1
      have h3 : D = 0 := by rcases h0 with h | h; exact absurd h h1; exact h
      subst h3
      clear h0 h1
      go_enter Tryd.func24, Tryd.ntmps24
      go_wp2_with fail
      refine cC.mono ?_
      rintro e w1 ⟨rfl, u1⟩
      have CKK := CK.out w1 u1
      go_wp2_with fail
      refine CKK.mono ?_
      rintro e w2 ⟨rfl, u2⟩
      have CWW := CW.out w2 (u1.trans u2)
      have UU := Lib.hid ((u1.trans u2) : Up w w2)
      go_wp2_with fail
      refine CWW.mono ?_
      rintro e w5 ⟨⟨v5, rfl⟩, u5, hw5⟩
      obtain ⟨A, m, c, k5, cJ⟩ := wr_join hw5 HNE.out HJ.out hTl hYz
      have U5 := Lib.hid u5
      clear u5 hw5
      go_wp2_with fail
      refine cJ.mono ?_
      rintro e w6 ⟨rfl, u6⟩
      go_wp2_with fail
      go_ret
      exact ⟨rfl, (UU.out.trans U5.out).trans u6⟩
  · have e : swR o = ⟨#[]⟩ := by
      cases o with
      | none => rfl
      | some t => exact if_neg h0
    rw [e]
    obtain ⟨E, hE⟩ : ∃ E, ckE o = E := ⟨_, rfl⟩
    obtain ⟨D, hD⟩ : ∃ E, kkE o = E := ⟨_, rfl⟩
    rw [hE] at cC h0
    rw [hD] at cK h0
    have h2 : (E != 0) = true := by rw [bne_iff_ne]; exact fun e => h0 (.inl e)
    have h3 : (D != 0) = true := by rw [bne_iff_ne]; exact fun e => h0 (.inr e)
    have CK := Lib.hid cK
    clear hE hD h0 hz h e cK hpw
    go_enter Tryd.func24, Tryd.ntmps24
    go_wp2_with fail
    refine cC.mono ?_
    rintro e w1 ⟨rfl, u1⟩
    go_wp2_with fail
    refine (CK.out w1 u1).mono ?_
    rintro e w2 ⟨rfl, u2⟩
    go_wp2_with fail
    go_ret
    exact ⟨rfl, u1.trans u2⟩
end Go.Proofs.YtmiicfdigkkbdaaDoor
