/-
  Layer 10, the program's writer: texts one behind the other.
-/
import Derived.Test.YtmiicfdigkkbdaaDoorGt31
namespace Go.Proofs.YtmiicfdigkkbdaaDoor
open Go.RowKit

theorem infoStrC : (Tryd.prog.info? 9).map (fun i => (i.zero, i.size, i.bytes)) = some (some (.string ⟨#[]⟩), 1, 16) := by kernel_rfl
def Wr (bw : Nat) (X : Nat → Obj → Prop) (w : World) (ts : List ByteArray) : Prop := ∃ v, w.heap[bw]? = some (.cells #[v] 79 (0, 0)) ∧ w.ownsRow (bw + 1) 9 1 v ts.length (ts.map Value.string) ∧ ∀ B o, X B o → w.heap[B]? = some o ∧ B ≠ bw ∧ some B ≠ v.ownBlock
def WrP (W : World) (bw : Nat) (X : Nat → Obj → Prop) (ts : List ByteArray) (e : Ending) (w' : World) : Prop := (∃ u, e = .returned u) ∧ Up W w' ∧ Wr bw X w' ts
theorem Wr.up {bw : Nat} {X : Nat → Obj → Prop} {w w' : World} {ts : List ByteArray} (h : Wr bw X w ts) (u : Up w w') : Wr bw X w' ts := by
  obtain ⟨v, h1, h2, h3⟩ := h
  exact ⟨v, u.row h1, own_eq h2 (fun g hg => u.block g (h2.lt g hg).2), fun B o h => ⟨u.row (h3 B o h).1, (h3 B o h).2⟩⟩
theorem Wr.keep {bw : Nat} {X : Nat → Obj → Prop} {w : World} {ts : List ByteArray} (h : Wr bw X w ts) (o : Obj) : Wr bw (fun B q => X B q ∨ (B = w.heap.size ∧ q = o)) (w.alloc o) ts := by
  have u : Up w (w.alloc o) := (Up.refl w).alloc _
  obtain ⟨v, h1, h2, h3⟩ := h
  have hlt := heap_lt h1
  refine ⟨v, u.row h1, own_eq h2 (fun g hg => u.block g (h2.lt g hg).2), fun B q hX => ?_⟩
  rcases hX with hX | ⟨rfl, rfl⟩
  · exact ⟨u.row (h3 B q hX).1, (h3 B q hX).2⟩
  · exact ⟨heap_alloc_new w _, by omega, fun e => by have := (h2.lt _ e.symm).2; omega⟩
theorem Wr.drop {bw : Nat} {X Y : Nat → Obj → Prop} {w : World} {ts : List ByteArray} (h : Wr bw Y w ts) (hX : ∀ B o, X B o → Y B o) : Wr bw X w ts := by
  obtain ⟨v, h1, h2, h3⟩ := h
  exact ⟨v, h1, h2, fun B o h => h3 B o (hX B o h)⟩
theorem Wr.row {bw : Nat} {X : Nat → Obj → Prop} {w : World} {ts : List ByteArray} (h : Wr bw X w ts) {B : Nat} {o : Obj} (hX : X B o) : w.heap[B]? = some o := by
  obtain ⟨v, h1, h2, h3⟩ := h
  exact (h3 B o hX).1
set_option maxHeartbeats 6400000 in
set_option maxRecDepth 100000 in
theorem put_any (W : World) (bw : Nat) (X : Nat → Obj → Prop) (hB : W.heap.size ≤ bw) (w : World) (hu : Up W w) (ts news : List ByteArray) (hw : Wr bw X w ts) (hts : ts.length ≤ 1000000) (hn : news.length ≤ 10) (hn0 : 0 < news.length) (H : Nat) (hc : ∀ (j : Nat) u, (news.map Value.string)[j]? = some u → w.cell? ⟨H, 0 + j, none⟩ = some u) :
    Calls Tryd.prog 73 #[.pointer (some ⟨bw, 0, none⟩), .slice (some ⟨H, 0, none⟩) news.length news.length] w (WrP W bw X (ts ++ news)) := by
  obtain ⟨v, h1, h2, h3⟩ := hw
  have HX := Lib.hid h3
  have c0 : w.cell? ⟨bw, 0, none⟩ = some v := cell_of_row w bw 0 _ _ _ h1
  have hBw := heap_lt h1
  have HROW := Lib.hid h1
  have HOWN := Lib.hid h2
  have HU := Lib.hid hu
  have HC : Hid (∀ (j : Nat) u, (news.map Value.string)[j]? = some u → w.cell? ((⟨H, 0, none⟩ : Addr).add j) = some u) := Lib.hid fun j u h => by
    have e1 : (⟨H, 0, none⟩ : Addr).add j = ⟨H, 0 + j, none⟩ := by unfold Addr.add; split <;> simp_all
    rw [e1]
    exact hc j u h
  obtain ⟨i0, hi0, hz0, hz1, hz2⟩ := info_parts infoStrC
  obtain ⟨n, hnn⟩ : ∃ n, ts.length = n := ⟨_, rfl⟩
  obtain ⟨m, hmm⟩ : ∃ m, news.length = m := ⟨_, rfl⟩
  rw [hnn] at hts HOWN
  rw [hmm] at hn hn0 ⊢
  have HN := Lib.hid hnn
  have HM := Lib.hid hmm
  clear h1 h2 h3 hu hc hnn hmm
  go_enter Tryd.func73, Tryd.ntmps73
  go_wp2_with (at_builtin; refine wpList_append_lies _ rfl _ _ 77 rfl (bw + 1) 9 i0 _ 1 16 Tryd.underlying77 hi0 hz0 hz1 hz2 rfl (by omega) v n (ts.map Value.string) rfl HOWN.out ⟨H, 0, none⟩ m m (news.map Value.string) rfl (by rw [List.length_map, HM.out, Nat.mul_one]) HC.out (by intro u hu; obtain ⟨s, _, rfl⟩ := List.mem_map.1 hu; rfl) (by omega) (by unfold maxLen; omega) (by omega) (by omega) w.heap.size rfl ?_; intro g6 cap6 w6 ho6 hg6 hat6 hlt6; have r6 : w6.heap[bw]? = some (.cells #[v] 79 (0, 0)) := (hg6.block bw hBw (fun e => by have := (World.ownsRow.lt HOWN.out bw e.symm).1; omega)).trans HROW.out; have c6 := cell_of_row w6 bw 0 _ _ _ r6; have f6 := frozen_of_row w6 bw 0 _ _ r6; have hb6 := heap_lt r6; have HO6 := Lib.hid ho6; have HG6 := Lib.hid hg6; have HAT := Lib.hid hat6; have R6 := Lib.hid r6; clear ho6 hg6 hat6 r6)
  go_end0
  have hzz := HU.out.size
  refine ⟨⟨_, rfl⟩, ?_, .slice (some ⟨g6, 0, none⟩) (n + m) cap6, ?_, ?_, fun B o hX => ?_⟩
  · exact Below.setCell (Below.grown HU.out HG6.out HU.out.size fun g e => by have := (World.ownsRow.lt HOWN.out g e).1; omega) hB _
  · have h := R6.out
    simp [World.setCell, Array.getElem?_modify, h]
  · have e : (ts ++ news).map Value.string = ts.map Value.string ++ news.map Value.string := List.map_append
    rw [e, List.length_append, HN.out, HM.out]
    refine own_setCell HO6.out _ _ fun g e => ?_
    injection e with e
    have e : g6 = g := e
    subst e
    rcases HAT.out with h | h
    · have := (World.ownsRow.lt HOWN.out g6 h).1; simp only; omega
    · simp only; omega
  · obtain ⟨x1, x2, x3⟩ := HX.out B o hX
    have hlt := heap_lt x1
    refine ⟨(Below.heap_setCell _ _ _ _ x2).trans ((HG6.out.block B hlt x3).trans x1), x2, fun e => ?_⟩
    injection e with e
    have e : B = g6 := e
    subst e
    rcases HAT.out with h | h
    · exact x3 h.symm
    · omega
theorem put_lit {W : World} {bw : Nat} {X : Nat → Obj → Prop} {w : World} {ts : List ByteArray} (news : List ByteArray) (hB : W.heap.size ≤ bw) (hu : Up W w) (hw : Wr bw X w ts) (hts : ts.length ≤ 1000000) (hn : news.length ≤ 10) (hn0 : 0 < news.length) :
    Calls Tryd.prog 73 #[.pointer (some ⟨bw, 0, none⟩), .slice (some ⟨w.heap.size, 0, none⟩) news.length news.length] (w.alloc (.cells (news.map Value.string).toArray 9)) (WrP W bw X (ts ++ news)) :=
  put_any W bw X hB _ (hu.alloc _) ts news (hw.up ((Up.refl w).alloc _)) hts hn hn0 w.heap.size fun j u h => by
    rw [Nat.zero_add, cell_of_row _ w.heap.size j _ _ _ (heap_alloc_new w _), List.getElem?_toArray]
    exact h
section
variable {W : World} {bw : Nat} {X : Nat → Obj → Prop}
theorem put1 {w : World} {ts : List ByteArray} (x : ByteArray) (hB : W.heap.size ≤ bw) (hu : Up W w) (hw : Wr bw X w ts) (hts : ts.length ≤ 1000000) :
    Calls Tryd.prog 73 #[.pointer (some ⟨bw, 0, none⟩), .slice (some ⟨w.heap.size, 0, none⟩) 1 1] (w.alloc (.cells #[.string x] 9)) (WrP W bw X (ts ++ [x])) := put_lit [x] hB hu hw hts (by show 1 ≤ 10; omega) Nat.one_pos
theorem put2 {w : World} {ts : List ByteArray} (x y : ByteArray) (hB : W.heap.size ≤ bw) (hu : Up W w) (hw : Wr bw X w ts) (hts : ts.length ≤ 1000000) :
    Calls Tryd.prog 73 #[.pointer (some ⟨bw, 0, none⟩), .slice (some ⟨w.heap.size, 0, none⟩) 2 2] (w.alloc (.cells #[.string x, .string y] 9)) (WrP W bw X (ts ++ [x, y])) := put_lit [x, y] hB hu hw hts (by show 2 ≤ 10; omega) (by show 0 < 2; omega)
set_option maxHeartbeats 6400000 in
set_option maxRecDepth 100000 in
theorem put_none (hB : W.heap.size ≤ bw) {w : World} {ts : List ByteArray} (hu : Up W w) (hw : Wr bw X w ts) (_hts : ts.length ≤ 1000000) :
    Calls Tryd.prog 73 #[.pointer (some ⟨bw, 0, none⟩), .slice none 0 0] w (WrP W bw X ts) := by
  obtain ⟨v, h1, h2, h3⟩ := hw
  have HX := Lib.hid h3
  have c0 : w.cell? ⟨bw, 0, none⟩ = some v := cell_of_row w bw 0 _ _ _ h1
  have f0 := frozen_of_row w bw 0 _ _ h1
  have hBw := heap_lt h1
  have HROW := Lib.hid h1
  have HOWN := Lib.hid h2
  have HU := Lib.hid hu
  have HS : Hid (∀ (u : Value), u = v → WrP W bw X ts (.returned (.tuple #[])) (w.setCell ⟨bw, 0, none⟩ u)) := Lib.hid fun u e => by
    subst e
    refine ⟨⟨_, rfl⟩, Below.setCell HU.out hB _, u, ?_, own_setCell HOWN.out _ _ (fun g e => by have := (World.ownsRow.lt HOWN.out g e).1; simp only; omega), fun B o hX => ?_⟩
    · have h := HROW.out
      simp [World.setCell, Array.getElem?_modify, h]
    · obtain ⟨x1, x2, x3⟩ := HX.out B o hX
      exact ⟨(Below.heap_setCell _ _ _ _ x2).trans x1, x2, x3⟩
  rcases h2.2 with ⟨hv, h0⟩ | ⟨g, cap, cur, hv, hbg, hh, hcap, _⟩
  · clear h1 h2 h3 hu _hts h0
    have hv : v = .slice none 0 0 := hv
    subst hv
    go_enter Tryd.func73, Tryd.ntmps73
    go_wp2_with fail
    go_end0
    exact HS.out _ rfl
  · have hle : ts.length ≤ cap := hcap
    obtain ⟨n, hn⟩ : ∃ n, ts.length = n := ⟨_, rfl⟩
    rw [hn] at hv hle _hts
    clear h1 h2 h3 hu hn hh hcap
    subst hv
    have hle' : (n : Int) ≤ (cap : Int) := by omega
    go_enter Tryd.func73, Tryd.ntmps73
    go_wp2_with fail
    go_end0
    exact HS.out _ rfl
def Bt (X : Nat → Obj → Prop) (bt : Value) (sep : List ByteArray) : Prop := (bt = .slice none 0 0 ∧ sep = []) ∨ ∃ H s, bt = .slice (some ⟨H, 0, none⟩) 1 1 ∧ sep = [s] ∧ X H (.cells #[.string s] 9 (0, 0))
theorem Bt.len {X : Nat → Obj → Prop} {bt : Value} {sep : List ByteArray} (h : Bt X bt sep) : sep.length ≤ 1 := by
  rcases h with ⟨_, rfl⟩ | ⟨_, _, _, rfl, _⟩ <;> simp
theorem put_bt (hB : W.heap.size ≤ bw) {w : World} {ts sep : List ByteArray} {bt : Value} (hu : Up W w) (hw : Wr bw X w ts) (hts : ts.length ≤ 1000000) (hb : Bt X bt sep) :
    Calls Tryd.prog 73 #[.pointer (some ⟨bw, 0, none⟩), bt] w (WrP W bw X (ts ++ sep)) := by
  rcases hb with ⟨rfl, rfl⟩ | ⟨H, s, rfl, rfl, hX⟩
  · rw [List.append_nil]
    exact put_none hB hu hw hts
  · refine put_any W bw X hB w hu ts [s] hw hts (by show 1 ≤ 10; omega) (by show 0 < 1; omega) H fun j u h => ?_
    match j, h with
    | 0, h =>
      injection h with h
      subst h
      exact cell_of_row w H 0 _ _ _ (hw.row hX)
end
theorem tkG_len1 {sep : List ByteArray} (hs : sep.length ≤ 1) {ts : List (List ByteArray)} (h : ts ≠ []) : (tkG sep true ts).length + 1 ≤ wkX ts := by
  cases ts with
  | nil => exact absurd rfl h
  | cons t r =>
    have ih := tkG_len hs r false
    show (([] : List ByteArray) ++ t ++ tkG sep false r).length + 1 ≤ t.length + 1 + wkX r
    rw [List.length_append, List.nil_append]
    omega
def tno (t : Tr) : Prop := (t.1.k = 110 → 0 ≤ t.1.n ∧ t.1.n ≤ 65536) ∧ t.2.nmo
theorem Fr.nmo_app {f g : Fr} : (f.app g).nmo ↔ f.nmo ∧ g.nmo := by
  induction f with
  | nil => exact ⟨fun h => ⟨trivial, h⟩, fun h => h.2⟩
  | cons x k r _ ih =>
    show (_ ∧ _ ∧ _ ∧ (r.app g).nmo) ↔ (_ ∧ _ ∧ _ ∧ _) ∧ _
    rw [ih]
    constructor
    · rintro ⟨a, b, c, d, e⟩; exact ⟨⟨a, b, c, d⟩, e⟩
    · rintro ⟨⟨a, b, c, d⟩, e⟩; exact ⟨a, b, c, d, e⟩
def WrAt (n : Nat) (W : World) (bw : Nat) (S0 : Nat → Prop) : Prop := ∀ (t : Tr), szT t ≤ n → tno t → ∀ (X : Nat → Obj → Prop) (w : World) (ts : List ByteArray) (v : Value), Up W w → Wr bw X w ts → ts.length + 5 * szT t ≤ 1000000 → InT W S0 v t →
  Calls Tryd.prog 43 #[.pointer (some ⟨bw, 0, none⟩), v] w (WrP W bw X (ts ++ tkT t))
set_option maxHeartbeats 6400000 in
set_option maxRecDepth 100000 in
theorem pRow {n : Nat} {W : World} {bw : Nat} {S0 : Nat → Prop} (hwr : WrAt n W bw S0) (hB : W.heap.size ≤ bw) {A : Option Addr} {c : Nat} {ks : Fr} (hkid : Kid W S0 A ks 0) (hz : ks.sz ≤ n) (hno : ks.nmo) (X : Nat → Obj → Prop) {bt : Value} {sep : List ByteArray} (hbt : Bt X bt sep) (w : World) (ts : List ByteArray)
    (hu : Up W w) (hw : Wr bw X w ts) (hl : ts.length + 5 * ks.sz ≤ 1000000) : Calls Tryd.prog 75 #[.pointer (some ⟨bw, 0, none⟩), .slice A ks.len c, bt] w (WrP W bw X (ts ++ tkG sep true ks.tk)) := by
  have hsl := hbt.len
  have cB := fun (w : World) (ts : List ByteArray) (hu : Up W w) (hw : Wr bw X w ts) (hts : ts.length ≤ 1000000) => put_bt hB hu hw hts hbt
  have hlen := Fr.len_le ks
  obtain ⟨N, hN⟩ : ∃ N, ks.len = N := ⟨_, rfl⟩
  rw [hN] at hlen ⊢
  have hN1 : N ≤ 1000000 := by omega
  obtain ⟨R, hR⟩ : ∃ R, ts ++ tkG sep true ks.tk = R := ⟨_, rfl⟩
  have HR := Lib.hid hR
  have HK := Lib.hid hkid
  have HNN := Lib.hid hN
  have HWR := Lib.hid hwr
  have HSZ := Lib.hid hz
  have HNO := Lib.hid hno
  have HLN := Lib.hid hl
  have CB := Lib.hid cB
  have HU := Lib.hid hu
  have HW := Lib.hid hw
  rw [hR]
  have hbv : ∃ a n c, bt = .slice a n c := by
    rcases hbt with ⟨rfl, _⟩ | ⟨H, s, rfl, _⟩
    · exact ⟨_, _, _, rfl⟩
    · exact ⟨_, _, _, rfl⟩
  obtain ⟨ba, bn, bc, rfl⟩ := hbv
  clear hkid hN hz hwr hno hl cB hu hw hR hbt hlen
  go_enter Tryd.func75, Tryd.ntmps75
  go_wp2_with fail
  go_loopw [6, 7, 10] (fun _ _ i wr => ∃ (k : Nat) (done rest : Fr), i = .int .i64 k ∧ k = done.len ∧ ks = done.app rest ∧ Kid W S0 A rest k ∧ Up W wr ∧ Wr bw X wr (ts ++ tkG sep true done.tk)) (fun _ _ i _ => N - (intOf i).toNat)
  case atStart => exact ⟨0, .nil, ks, rfl, rfl, rfl, HK.out, HU.out, by show Wr bw X w (ts ++ []); rw [List.append_nil]; exact HW.out⟩
  case round =>
    obtain ⟨k, done, rest, rfl, hk, hks, hkid, hur, hwr⟩ := hrel
    have hl : N = done.len + rest.len := by rw [← HNN.out, hks, Fr.len_app]
    have hs : ks.sz = done.sz + rest.sz := by rw [hks, Fr.sz_app]
    have hsz := HSZ.out
    have hln := HLN.out
    have HKS := Lib.hid hks
    have HUR := Lib.hid hur
    have HWW := Lib.hid hwr
    have htl := Fr.tk_len done
    by_cases hlt : 0 < rest.len
    · obtain ⟨y, l, r, rfl⟩ := Fr.cut hlt
      obtain ⟨kb, ko, u, rfl, hkb, hcell0, hut, hnext⟩ := hkid.next
      have hcell := hur.cell hcell0
      have hsr : (Fr.cons y l r).sz = 1 + l.sz + r.sz := rfl
      have hyl : szT (y, l) = 1 + l.sz := rfl
      have hlr : (Fr.cons y l r).len = r.len + 1 := rfl
      have hkN : k < N := by omega
      have hkz : (k : Int) < (N : Int) := by omega
      have hnn := HNO.out
      rw [hks, Fr.nmo_app] at hnn
      have hty : tno (y, l) := ⟨hnn.2.2.1, hnn.2.2.2.1⟩
      have cW := fun (wr : World) (ts' : List ByteArray) (hu : Up W wr) (hw : Wr bw X wr ts') (hl : ts'.length + 5 * szT (y, l) ≤ 1000000) => HWR.out (y, l) (by omega) hty X wr ts' u hu hw hl hut
      have HK1 := Lib.hid hk
      have HN1 := Lib.hid hnext
      have hsn : tkG sep true ((done.app (.cons y l .nil)).tk) = tkG sep true done.tk ++ (if done.tk.isEmpty then [] else sep) ++ tkT (y, l) := by rw [Fr.tk_app]; show tkG sep true (done.tk ++ [tkT (y, l)]) = _; rw [tkG_snoc, Bool.true_and]
      obtain ⟨q1, o1, rfl⟩ := hut.ptr
      by_cases hk0 : k = 0
      · have hd0 : done = .nil := by
          cases done with
          | nil => rfl
          | cons _ _ _ => simp [Fr.len] at hk; omega
        subst hd0
        have hkz0 : ¬ (0 : Int) < (k : Int) := by omega
        have e1 : ts ++ tkG sep true (Fr.nil).tk = ts := List.append_nil _
        have hwr' := HWW.out
        rw [e1] at hwr'
        have hsd : (Fr.nil).sz = 0 := rfl
        have cI := cW wr ts hur hwr' (by omega)
        subst hk0
        rw [Nat.add_zero] at hcell
        have HSN : Hid (ts ++ tkT (y, l) = ts ++ tkG sep true ((Fr.nil.app (.cons y l .nil)).tk)) := Lib.hid (by rw [hsn]; rfl)
        clear hkid hks hk hl hs hsz hln htl hcell0 hut hnext hsr hyl hlr hnn hty hsn e1 hwr' cW hur hwr hsd
        go_wp2_with fail
        refine cI.mono ?_
        rintro e w2 ⟨⟨v2, rfl⟩, u2, hw2⟩
        have U2 := Lib.hid u2
        have HW2 := Lib.hid hw2
        clear u2 hw2 cI
        go_wp2_with fail
        go_roundw
        case rel => exact ⟨0 + 1, Fr.nil.app (.cons y l .nil), r, by go_num, rfl, by rw [HKS.out]; rfl, HN1.out, U2.out, by rw [← HSN.out]; exact HW2.out⟩
        case measure => simp [intOf]; omega
      · have hkz0 : (0 : Int) < (k : Int) := by omega
        have hne : done.tk ≠ [] := fun e => by
          have := Fr.tk_empty done
          rw [e] at this
          simp at this
          omega
        have hie : done.tk.isEmpty = false := by cases h : done.tk with | nil => exact absurd h hne | cons _ _ => rfl
        have hl1 := tkG_len1 (sep := sep) hsl hne
        have hll : (ts ++ tkG sep true done.tk).length = ts.length + (tkG sep true done.tk).length := List.length_append
        have cP := CB.out wr _ hur hwr (by omega)
        have HSN : Hid (ts ++ tkG sep true done.tk ++ sep ++ tkT (y, l) = ts ++ tkG sep true ((done.app (.cons y l .nil)).tk)) := Lib.hid (by rw [hsn, hie]; simp)
        have CW : Hid (∀ wr', Up W wr' → Wr bw X wr' (ts ++ tkG sep true done.tk ++ sep) → Calls Tryd.prog 43 #[.pointer (some ⟨bw, 0, none⟩), .pointer (some ⟨q1, o1, none⟩)] wr' (WrP W bw X (ts ++ tkG sep true done.tk ++ sep ++ tkT (y, l)))) := Lib.hid fun wr' a b => cW wr' _ a b (by rw [List.length_append, hll]; omega)
        clear hkid hks hk hl hs hsz hln htl hcell0 hut hnext hsr hyl hlr hnn hty hsn cW hur hwr hne hie hl1 hll
        go_wp2_with fail
        refine cP.mono ?_
        rintro e w1 ⟨⟨v1, rfl⟩, u1, hw1⟩
        have cI := CW.out w1 u1 hw1
        clear u1 hw1 cP
        go_wp2_with fail
        refine cI.mono ?_
        rintro e w2 ⟨⟨v2, rfl⟩, u2, hw2⟩
        have U2 := Lib.hid u2
        have HW2 := Lib.hid hw2
        clear u2 hw2 cI
        go_wp2_with fail
        go_roundw
        case rel => exact ⟨k + 1, done.app (.cons y l .nil), r, by go_num, by rw [Fr.len_app, HK1.out]; rfl, by rw [HKS.out, Fr.app_cons], HN1.out, U2.out, by rw [← HSN.out]; exact HW2.out⟩
        case measure => simp [intOf]; omega
    · have h0 : rest = .nil := by
        cases rest with
        | nil => rfl
        | cons y l r => exact absurd (Nat.succ_pos _) hlt
      subst h0
      have hkd : ks = done := by rw [hks, Fr.app_nil]
      have hkz : ¬ (k : Int) < (N : Int) := by simp only [Fr.len] at hl; omega
      have HX : Hid (Wr bw X wr R) := Lib.hid (by rw [← HR.out, hkd]; exact HWW.out)
      clear hkid hks hk hl hs hsz hln htl hkd hur hwr
      go_wp2_with fail
      go_end0
      exact ⟨⟨_, rfl⟩, HUR.out, HX.out⟩
end Go.Proofs.YtmiicfdigkkbdaaDoor
