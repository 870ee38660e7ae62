/-
  The document's cells: what it tells.
-/
import Derived.Test.YthonaeigacfmbaaGreatDoorGq04
namespace Go.Proofs.YthonaeigacfmbaaGreatDoor
open Go.RowKit

def Sx (H : Nat) (w : World) (vo vk : Value) (q : Nat) : Prop := H < q ∧ q < w.heap.size ∧ vo.ownBlock ≠ some q ∧ vk.ownBlock ≠ some q
def CeRel (w : World) (H : Nat) (x : Nod) (vo vk : Value) (cs : List Cel) (rs : List Int) (wr : World) : Prop :=
  ∃ vs, wr.ownsRow (H + 1) 89 5 vo cs.length (flat cs vs) ∧ CsF wr (Sx H wr vo vk) vs cs ∧ wr.ownsRow (H + 1) 3 1 vk rs.length (ints rs) ∧
    wr.heap[H]? = some (.cells #[.int .i64 x.k, .int .i64 x.n, .string x.a, .string x.m, vk] 89 (0, 0)) ∧ Below H w wr ∧ (∀ g, vo.ownBlock = some g → vk.ownBlock ≠ some g)
theorem ints_snoc (l : List Int) (z : Int) : ints (l ++ [z]) = ints l ++ [.int .i64 z] := by simp [ints]
theorem CeRel.step {w wr w2 w4 w6 : World} {H m cap2 g2 : Nat} {x : Nod} {vo vk v4 v6 : Value} {cs ds : List Cel} {rs : List Int} {z : Int} {vs vs2 : List Value} {ob : Obj}
    (ho : wr.ownsRow (H + 1) 89 5 vo cs.length (flat cs vs)) (hf : CsF wr (Sx H wr vo vk) vs cs) (hk : wr.ownsRow (H + 1) 3 1 vk rs.length (ints rs))
    (hc : wr.heap[H]? = some (.cells #[.int .i64 x.k, .int .i64 x.n, .string x.a, .string x.m, vk] 89 (0, 0))) (hbw : Below H w wr) (hap : ∀ g, vo.ownBlock = some g → vk.ownBlock ≠ some g)
    (hb2 : Below wr.heap.size wr w2) (hf2 : CsF w2 (So wr.heap.size w2 (.slice (some ⟨g2, 0, none⟩) m cap2)) vs2 ds)
    (ho4 : w4.ownsRow (H + 1) 89 5 v4 (cs.length + ds.length) (flat cs vs ++ flat ds vs2)) (hg4 : w2.grownBy w4 vo.ownBlock) (hat4 : v4.ownBlock = vo.ownBlock ∨ v4.ownBlock = some w2.heap.size)
    (ho6 : w6.ownsRow (H + 1) 3 1 v6 (rs.length + 1) (ints rs ++ [.int .i64 z])) (hg6 : (w4.alloc ob).grownBy w6 vk.ownBlock) (hat6 : v6.ownBlock = vk.ownBlock ∨ v6.ownBlock = some (w4.heap.size + 1)) :
    CeRel w H x v4 v6 (cs ++ ds) (rs ++ [z]) (w6.setCell ⟨H, 4, none⟩ v6) := by
  have hHr := heap_lt hc
  have hs2 := hb2.size
  have hs4 := hg4.size
  have hsa : (w4.alloc ob).heap.size = w4.heap.size + 1 := by simp
  have hs6 := hg6.size
  have hsz7 : (w6.setCell ⟨H, 4, none⟩ v6).heap.size = w6.heap.size := by simp [World.setCell]
  have hol := ho.lt
  have hkl := hk.lt
  have h4l := ho4.lt
  have h6l := ho6.lt
  -- a block that is neither row's, nor H, stands
  have hst : ∀ b, b < w2.heap.size → b ≠ H → vo.ownBlock ≠ some b → vk.ownBlock ≠ some b → (w6.setCell ⟨H, 4, none⟩ v6).heap[b]? = w2.heap[b]? := by
    intro b h1 h2 h3 h4
    rw [Below.heap_setCell _ _ _ _ h2, hg6.block b (by omega) (fun e => h4 e.symm), Below.heap_alloc _ _ _ (by omega), hg4.block b h1 (fun e => h3 e.symm)]
  have hS : ∀ q, H < q → q < w2.heap.size → vo.ownBlock ≠ some q → vk.ownBlock ≠ some q → Sx H (w6.setCell ⟨H, 4, none⟩ v6) v4 v6 q := by
    intro q h1 h2 h3 h4
    refine ⟨h1, by omega, ?_, ?_⟩
    · rcases hat4 with h | h
      · rw [h]; exact h3
      · rw [h]; intro e; injection e with e; omega
    · rcases hat6 with h | h
      · rw [h]; exact h4
      · rw [h]; intro e; injection e with e; omega
  have hap4 : ∀ g, v4.ownBlock = some g → vk.ownBlock ≠ some g := by
    intro g hg
    rcases hat4 with h | h
    · exact hap g (by rw [← h]; exact hg)
    · rw [h] at hg
      injection hg with hg
      intro e
      have := (hkl g e).2
      omega
  refine ⟨vs ++ vs2, ?_, ?_, ?_, ?_, ?_, ?_⟩
  · rw [List.length_append, flat_app ds vs2 hf.len]
    have h1 : w6.ownsRow (H + 1) 89 5 v4 (cs.length + ds.length) (flat cs vs ++ flat ds vs2) := (ho4.alloc ob).kept hg6 (by
      cases hv : v4.ownBlock with
      | none => exact .inl rfl
      | some g => exact .inr fun e => hap4 g hv e.symm)
    exact own_setCell h1 _ _ fun g hg => by have := (h4l g hg).1; simp only; omega
  · refine CsF.app (hf.keep (fun q h => hS q h.1 (by have := h.2.1; omega) h.2.2.1 h.2.2.2) fun b h => ?_) (hf2.keep (fun q h => ?_) fun b h => ?_)
    · rw [hst b (by have := h.2.1; omega) (by have := h.1; omega) h.2.2.1 h.2.2.2]
      exact hb2.block b h.2.1
    · exact hS q (by have := h.1; omega) h.2.1 (fun e => by have := (hol q e).2; have := h.1; omega) (fun e => by have := (hkl q e).2; have := h.1; omega)
    · exact hst b h.2.1 (by have := h.1; omega) (fun e => by have := (hol b e).2; have := h.1; omega) (fun e => by have := (hkl b e).2; have := h.1; omega)
  · rw [ints_snoc, List.length_append]
    exact own_setCell ho6 _ _ fun g hg => by have := (h6l g hg).1; simp only; omega
  · have h1 : w6.heap[H]? = some (.cells #[.int .i64 x.k, .int .i64 x.n, .string x.a, .string x.m, vk] 89 (0, 0)) := by
      rw [hg6.block H (by omega) (fun e => by have := (hkl H e.symm).1; omega), Below.heap_alloc _ _ _ (by omega), hg4.block H (by omega) (fun e => by have := (hol H e.symm).1; omega), hb2.block H hHr]
      exact hc
    rw [block_set _ h1]
    rfl
  · have h1 := (hbw.trans (hb2.mono (by omega))).grown hg4 (by omega) (fun g hg => by have := (hol g hg).1; omega)
    exact ((h1.alloc (by omega) ob).grown hg6 (by omega) (fun g hg => by have := (hkl g hg).1; omega)).setCell (Nat.le_refl _) _
  · intro g hg e
    rcases hat6 with h | h
    · exact hap4 g hg (by rw [← h]; exact e)
    · rw [h] at e
      injection e with e
      have := (h4l g hg).2
      omega
theorem celF_snoc (a : Fr) (y : Nod) (l : Fr) (f : Nat) : celF (a.app (.cons y l .nil)) f = ((celF a f).1 ++ celT (y, l) (f + a.sz), (celF a f).2 ++ [((f + a.sz + l.sz : Nat) : Int)]) := by
  rw [celF_app]
  have e : celF (.cons y l .nil) (f + a.sz) = (celT (y, l) (f + a.sz), [((f + a.sz + l.sz : Nat) : Int)]) := by
    simp [celF, celT, (celF_len l (f + a.sz)).1]
  rw [e]
theorem own_slice5 {w : World} {base : Nat} {e : TypeId} {v : Value} {n : Nat} {xs : List Value} (h : w.ownsRow base e 5 v n xs) : ∃ A c, v = .slice A n c := by
  rcases h.2 with ⟨h1, h2⟩ | ⟨g, cap, cur, h1, _⟩
  · exact ⟨none, 0, by rw [h1, h2]⟩
  · exact ⟨_, _, h1⟩
theorem apart_of {vo vk : Value} (h : ∀ g, vo.ownBlock = some g → vk.ownBlock ≠ some g) : vk.ownBlock = none ∨ vk.ownBlock ≠ vo.ownBlock := by
  cases hv : vk.ownBlock with
  | none => exact .inl rfl
  | some g => exact .inr fun e => h g e.symm hv
theorem five_news {w : World} {B : Nat} {a b c d v : Value} {t : TypeId} {z : Nat × Nat} (hb : w.heap[B]? = some (.cells #[a, b, c, d, v] t z)) : ∀ j u, [a, b, c, d, v][j]? = some u → w.cell? ((⟨B, 0, none⟩ : Addr).add j) = some u := fun j u hu => by
  rw [addAt, Nat.zero_add, cell_of_row w B j _ t z hb]
  simpa using hu
theorem five_one {a b : Int} {s t : ByteArray} {v : Value} (h : v.oneCell' = true) : ∀ u ∈ [Value.int .i64 a, .int .i64 b, .string s, .string t, v], u.oneCell' = true := by
  intro u hu
  simp only [List.mem_cons, List.not_mem_nil, or_false] at hu
  rcases hu with rfl | rfl | rfl | rfl | rfl
  · rfl
  · rfl
  · rfl
  · rfl
  · exact h
set_option maxHeartbeats 6400000 in
set_option maxRecDepth 100000 in
theorem refCells : ∀ (n : Nat) (t : Tr), szT t ≤ n → n ≤ 100000 → ∀ (f : Nat), f + szT t ≤ 100000000 → ∀ (w : World) (Sq : Nat → Prop) (v : Value), Bel Sq w.heap.size → InT w Sq v t →
    Calls Tryz.prog 177 #[v, .int .i64 (f : Int)] w (CePost (celT t f) w)
  | 0, t, h, _, _, _, _, _, _, _, _ => absurd h (by unfold szT; omega)
  | n + 1, (x, ks), hn, hbig, f, hf, w, Sq, v, hS, hin => by
    have ih := refCells n
    obtain ⟨q, p, A, c, rfl, hq1, c0, c1, c2, c3, c4, hc, hkid⟩ := hin.open
    have hqw := hS q hq1
    have hsz : szT (x, ks) = 1 + ks.sz := rfl
    have hll := Fr.len_le ks
    obtain ⟨N, hN⟩ : ∃ N, ks.len = N := ⟨_, rfl⟩
    rw [hN] at c4 hll
    have hN1 : N ≤ 100000 := by omega
    obtain ⟨H, hH⟩ : ∃ H, w.heap.size = H := ⟨_, rfl⟩
    have HK := Lib.hid hkid
    have HIH := Lib.hid ih
    have HB := Lib.hid hS
    have HNN := Lib.hid hN
    have HSZ := Lib.hid hsz
    have HN0 := Lib.hid hn
    have HH := Lib.hid hH
    clear hkid hin ih hS hN hsz hn hH hc
    obtain ⟨i0, hi, hz0, hz1, hz2⟩ := info_parts infoCel
    obtain ⟨j0, hj, hy0, hy1, hy2⟩ := info_parts infoI
    go_enter Tryz.func177, Tryz.ntmps177
    go_wp2_with fail
    go_region_held3 (fun w' => w'.cell? ⟨q, p, none⟩ = some (.int .i64 x.k) ∧ w'.cell? ⟨q, p + 1, none⟩ = some (.int .i64 x.n) ∧ w'.cell? ⟨q, p + 2, none⟩ = some (.string x.a) ∧ w'.cell? ⟨q, p + 3, none⟩ = some (.string x.m)) (go_keep) (fail)
    have hb1 : Below H w ((w.alloc (.cells #[.int .i64 x.k, .int .i64 x.n, .string x.a, .string x.m, .slice none 0 0] 89)).drew) := below_drewN' ((Below.refl H w).alloc (by rw [HH.out]; exact Nat.le_refl _) _) 1
    have hn1 : ((w.alloc (.cells #[.int .i64 x.k, .int .i64 x.n, .string x.a, .string x.m, .slice none 0 0] 89)).drew).heap[H]? = some (.cells #[.int .i64 x.k, .int .i64 x.n, .string x.a, .string x.m, .slice none 0 0] 89 (0, 0)) := by rw [← HH.out]; exact heap_alloc_new w _
    rw [HH.out]
    generalize (w.alloc (.cells #[.int .i64 x.k, .int .i64 x.n, .string x.a, .string x.m, .slice none 0 0] 89)).drew = W1 at hb1 hn1 ⊢
    have hini : CeRel w H x (.slice none 0 0) (.slice none 0 0) (celF .nil f).1 (celF .nil f).2 W1 := ⟨[], World.ownsRow_nil _ _ _ _, trivial, World.ownsRow_nil _ _ _ _, hn1, hb1, by intro g hg; simp [Value.ownBlock] at hg⟩
    have HINI := Lib.hid hini
    have HB1 := Lib.hid hb1
    clear hini hb1 hn1 c0 c1 c2 c3
    go_wp2_with fail
    go_loopw [5, 7] (fun vo i wr => ∃ (j : Nat) (done rest : Fr) (vk : Value), i = .int .i64 j ∧ j = done.len ∧ ks = done.app rest ∧ Kid wr Sq A rest j ∧ CeRel w H x vo vk (celF done f).1 (celF done f).2 wr) (fun _ i _ => N - (intOf i).toNat)
    case atStart => exact ⟨0, .nil, ks, .slice none 0 0, rfl, rfl, rfl, HK.out.keep (fun _ h => h) fun b hb => HB1.out.block b (by have := HB.out b hb; rw [HH.out] at this; exact this), HINI.out⟩
    case round =>
      obtain ⟨j, done, rest, vk, rfl, hj, hks, hkid, vs, ho, hfl, hk, hcb, hbw, hap⟩ := hrel
      have hl : N = done.len + rest.len := by rw [← HNN.out, hks, Fr.len_app]
      have hss : ks.sz = done.sz + rest.sz := by rw [hks, Fr.sz_app]
      have hsz := HSZ.out
      have hn := HN0.out
      have hCS := (celF_len done f).1
      have hRS := (celF_len done f).2
      have hHr := heap_lt hcb
      have c4r := (hbw.cell (p := ⟨q, p + 4, none⟩) (by rw [← HH.out]; exact hqw)).trans c4
      have hqr : q < wr.heap.size := by have := HH.out; omega
      have hbr : Bel Sq wr.heap.size := fun q' h => by have := HB.out q' h; have := HH.out; omega
      have hSH : Bel Sq H := fun q' h => by have := HB.out q' h; rw [HH.out] at this; exact this
      obtain ⟨D, hD⟩ : ∃ D, done.sz = D := ⟨_, rfl⟩
      have HSN := Lib.hid (celF_snoc done · · f)
      obtain ⟨CS, hCSe⟩ : ∃ CS, (celF done f).1 = CS := ⟨_, rfl⟩
      obtain ⟨RS, hRSe⟩ : ∃ RS, (celF done f).2 = RS := ⟨_, rfl⟩
      have HKS := Lib.hid hks
      have HCSE := Lib.hid hCSe
      have HRSE := Lib.hid hRSe
      rw [hCSe, hD] at hCS
      rw [hRSe, ← hj] at hRS
      rw [hCSe] at ho hfl
      rw [hRSe] at hk
      have HO := Lib.hid ho
      have HF := Lib.hid hfl
      have HKR := Lib.hid hk
      have HCB := Lib.hid hcb
      have HBW := Lib.hid hbw
      have HAP := Lib.hid hap
      have ho' := ho
      rw [hCS] at ho'
      have hk' := hk
      rw [hRS] at hk'
      have HO' := Lib.hid ho'
      have HK' := Lib.hid hk'
      have HCS := Lib.hid hCS
      have HRS := Lib.hid hRS
      obtain ⟨OA, OC, rfl⟩ := own_slice5 ho'
      by_cases hlt : 0 < rest.len
      · obtain ⟨y, l, r, rfl⟩ := Fr.cut hlt
        obtain ⟨kb, ko, u, rfl, hkb, hcell, hu, hnext⟩ := hkid.next
        have hyl : szT (y, l) = 1 + l.sz := rfl
        have hsr : (Fr.cons y l r).sz = 1 + l.sz + r.sz := rfl
        have hlr : (Fr.cons y l r).len = r.len + 1 := rfl
        have hjN : j < N := by omega
        have hjz : (j : Int) < (N : Int) := by omega
        have hDb : D ≤ 100000 ∧ l.sz ≤ 100000 := by omega
        have hkbr : kb < wr.heap.size := hbr kb hkb
        have cI := HIH.out (y, l) (by omega) (by omega) (f + D) (by omega) wr Sq u hbr hu
        have e1 : ((f + D : Nat) : Int) = (f : Int) + (D : Int) := by omega
        rw [e1] at cI
        have hDS := celT_len (y, l) (f + D)
        obtain ⟨DS, hDSe⟩ : ∃ DS, celT (y, l) (f + D) = DS := ⟨_, rfl⟩
        obtain ⟨m, hm⟩ : ∃ m, szT (y, l) = m := ⟨_, rfl⟩
        rw [hDSe] at cI hDS
        rw [hm] at hDS hyl
        have hmb : 0 < m ∧ m ≤ 100001 := by omega
        have HDS := Lib.hid hDS
        have HDSE := Lib.hid hDSe
        have HD := Lib.hid hD
        have HM := Lib.hid hyl
        have HN := Lib.hid hnext
        have HSH := Lib.hid hSH
        have HLN : Hid (j + 1 = (done.app (.cons y l .nil)).len) := Lib.hid (by rw [Fr.len_app]; simp only [Fr.len]; omega)
        clear hkid hks hj hl hss hsz hn hCS hRS hCSe hRSe ho hfl hk hcb hbw hap ho' hk' hu hnext hsr hlr hyl e1 hDS hDSe hm hD hbr hSH
        go_wp2_with fail
        refine cI.mono ?_
        rintro e w2 ⟨v2, rfl, ⟨vs2, ho2, hf2⟩, hb2⟩
        rw [HDS.out] at ho2
        obtain ⟨g2, cap2, rfl, hg2a, hg2b⟩ := ho2.form hmb.1
        have hs2 := hb2.size
        have HO2 := Lib.hid ho2
        have HF2 := Lib.hid hf2
        have HB2 := Lib.hid hb2
        have HO3 := Lib.hid (own_below HO'.out hb2)
        have HK3 := Lib.hid (own_below HK'.out hb2)
        have HC3 := Lib.hid (heap_below HCB.out hb2)
        have hcells : ∀ i u, (flat DS vs2)[i]? = some u → w2.cell? ((⟨g2, 0, none⟩ : Addr).add i) = some u := fun i u hu => ho2.cells (g := g2) rfl i u hu
        have HCE := Lib.hid hcells
        clear ho2 hf2 hb2 hcells cI
        go_wp2_with (at_builtin; first
          | (refine wpList_append_own_at _ rfl _ _ 44 rfl (H + 1) 89 i0 _ 5 72 Tryz.underlying44 hi hz0 hz1 hz2 rfl (by decide) (.slice OA D OC) D (flat CS vs) rfl HO3.out ⟨g2, 0, none⟩ m cap2 (flat DS vs2) rfl (by rw [flat_len HF2.out.len, HDS.out]) HCE.out HF2.out.one (by unfold maxLen; omega) (by omega) (by omega) ?_; intro v4 w4 hown4 hgrow4 _ hat4; obtain ⟨A4, C4, hv4⟩ := own_slice5 hown4; subst hv4; have HOWN4 := Lib.hid hown4; have HG4 := Lib.hid hgrow4; have HAT4 := Lib.hid hat4; have hcb4 := (hgrow4.block H (by omega) (fun e => by have := (HO'.out.lt H e.symm).1; omega)).trans HC3.out; have k4 := cell_of_row w4 H 4 _ _ _ hcb4; have k4 : w4.cell? ⟨H, 4, none⟩ = some vk := k4; have f4 := frozen_of_row w4 H 4 _ _ hcb4; have hH4 := heap_lt hcb4; have HK4 := Lib.hid (HK3.out.kept hgrow4 (apart_of HAP.out)); clear hown4 hgrow4 hat4 hcb4)
          | (refine wpList_append_own_at _ rfl _ _ 87 rfl (H + 1) 3 j0 _ 1 8 Tryz.underlying87 hj hy0 hy1 hy2 rfl (by decide) vk j (ints RS) rfl (HK4.out.alloc _) ⟨w4.heap.size, 0, none⟩ 1 1 [_] rfl rfl (cell_one_new _ _ _) (fun x hx => by simp at hx; subst hx; rfl) (by unfold maxLen; omega) (by omega) (by simp; omega) ?_; intro v6 w6 hown6 hgrow6 _ hat6; obtain ⟨A6, C6, hv6⟩ := own_slice hown6; subst hv6; have HOWN6 := Lib.hid hown6; have HG6 := Lib.hid hgrow6; have HAT6 := Lib.hid hat6; have k6 := (hgrow6.cell_far ⟨H, 4, none⟩ (by simp; omega) (fun e => by have := (HK4.out.lt H e.symm).1; omega)).trans (((Below.refl w4.heap.size w4).alloc (Nat.le_refl _) _).cell (p := ⟨H, 4, none⟩) hH4); have f6 := (hgrow6.frozen_far ⟨H, 4, none⟩ (by simp; omega) (fun e => by have := (HK4.out.lt H e.symm).1; omega)).trans (((Below.refl w4.heap.size w4).alloc (Nat.le_refl _) _).frozen (p := ⟨H, 4, none⟩) hH4); have k6 := k6.trans k4; have f6 := f6.trans f4; clear hown6 hgrow6 hat6))
        go_roundw
        case rel =>
          have hstep := CeRel.step HO.out HF.out HKR.out HCB.out HBW.out HAP.out HB2.out HF2.out (by rw [HCS.out, HDS.out]; exact HOWN4.out) HG4.out HAT4.out (by rw [HRS.out]; exact HOWN6.out) HG6.out (by have := HAT6.out; simpa using this)
          refine ⟨j + 1, done.app (.cons y l .nil), r, .slice A6 (j + 1) C6, by go_num, HLN.out, by rw [HKS.out, Fr.app_cons], HN.out.keep (fun _ h => h) fun b hb => ?_, ?_⟩
          · have hbH := HSH.out b hb
            obtain ⟨_, _, _, _, _, hb7, _⟩ := hstep
            exact (hb7.block b hbH).trans (HBW.out.block b hbH).symm
          · have hz : ((f + D + l.sz : Nat) : Int) = (f : Int) + ((D : Int) + (m : Int)) - 1 := by have := HM.out; omega
            rw [HSN.out y l, HCSE.out, HRSE.out, HD.out, HDSE.out, hz]
            exact hstep
        case measure => simp [intOf]; omega
      · have h0 : rest = .nil := by
          cases rest with
          | nil => rfl
          | cons y l r => exact absurd (Nat.succ_pos _) hlt
        subst h0
        have hjz : ¬ (j : Int) < (N : Int) := by have : (Fr.nil).len = 0 := rfl; omega
        have hfin : done = ks := by rw [hks, Fr.app_nil]
        have d0 := cell_of_row wr H 0 _ _ _ hcb
        have d1 := cell_of_row wr H 1 _ _ _ hcb
        have d2 := cell_of_row wr H 2 _ _ _ hcb
        have d3 := cell_of_row wr H 3 _ _ _ hcb
        have d4 := cell_of_row wr H 4 _ _ _ hcb
        have d0 : wr.cell? ⟨H, 0, none⟩ = some (.int .i64 x.k) := d0
        have d1 : wr.cell? ⟨H, 1, none⟩ = some (.int .i64 x.n) := d1
        have d2 : wr.cell? ⟨H, 2, none⟩ = some (.string x.a) := d2
        have d3 : wr.cell? ⟨H, 3, none⟩ = some (.string x.m) := d3
        have d4 : wr.cell? ⟨H, 4, none⟩ = some vk := d4
        have hDb : D ≤ 100000 := by omega
        have HFIN := Lib.hid hfin
        have hvks := SpS.own (S := fun _ => True) hk fun _ _ => trivial
        have HVK1 := Lib.hid hvks.one
        clear hkid hks hj hl hss hsz hn hCS hRS hCSe hRSe ho hfl hk hcb hbw hap ho' hk' hD hbr hfin hvks
        go_wp2_with (at_builtin; (refine wpList_append_own_at _ rfl _ _ 44 rfl (H + 1) 89 i0 _ 5 72 Tryz.underlying44 hi hz0 hz1 hz2 rfl (by decide) (.slice OA D OC) D (flat CS vs) rfl (HO'.out.alloc _) ⟨wr.heap.size, 0, none⟩ 1 1 [.int .i64 x.k, .int .i64 x.n, .string x.a, .string x.m, vk] rfl rfl (five_news (heap_alloc_new wr _)) (fun u hu => five_one HVK1.out u hu) (by unfold maxLen; omega) (by omega) (by simp; omega) ?_); intro v4 w4 hown4 hgrow4 _ hat4; have HOWN4 := Lib.hid hown4; have HG4 := Lib.hid hgrow4; have HAT4 := Lib.hid hat4; clear hown4 hgrow4 hat4)
        go_ret
        have hfull : celT (x, ks) f = CS ++ [⟨x, RS⟩] := by
          unfold celT
          simp only
          rw [← HFIN.out, HCSE.out, HRSE.out]
        rw [hfull]
        have hsa : (wr.alloc (.cells #[.int .i64 x.k, .int .i64 x.n, .string x.a, .string x.m, vk] 89)).heap.size = wr.heap.size + 1 := by simp
        have hg := HG4.out
        have hat := HAT4.out
        have hs4 := hg.size
        have hst : ∀ b, b < wr.heap.size → (Value.slice OA D OC).ownBlock ≠ some b → w4.heap[b]? = wr.heap[b]? := fun b h1 h2 => by
          rw [hg.block b (by omega) (fun e => h2 e.symm), Below.heap_alloc _ _ _ h1]
        refine ⟨_, rfl, ⟨vs ++ [vk], ?_, ?_⟩, ?_⟩
        · rw [flat_app _ _ HF.out.len, List.length_append, HCS.out]
          exact HOWN4.out.mono (by have := HH.out; omega)
        · have hS : ∀ q', H < q' → q' < wr.heap.size → (Value.slice OA D OC).ownBlock ≠ some q' → So w.heap.size w4 v4 q' := by
            intro q' h1 h2 h3
            refine ⟨by have := HH.out; omega, by omega, ?_⟩
            rcases hat with h | h
            · rw [h]; exact h3
            · rw [h, hsa]; intro e; injection e with e; omega
          refine CsF.app (HF.out.keep (fun q' h => hS q' h.1 h.2.1 h.2.2.1) fun b h => hst b h.2.1 h.2.2.1) ⟨?_, trivial⟩
          have hkl := HKR.out.lt
          refine (SpS.own (S := fun q' => vk.ownBlock = some q') HKR.out fun g hg => hg).keep (fun q' h => hS q' (by have := (hkl q' h).1; omega) (hkl q' h).2 fun e => HAP.out q' e h) fun b h => hst b (hkl b h).2 fun e => HAP.out b e h
        · rw [HH.out]
          exact (HBW.out.alloc (by omega) _).grown hg (by rw [hsa]; omega) (fun g hg => by have := (HO'.out.lt g hg).1; omega)
def PkPost (cs : List Cel) (z : Int) (W : World) (e : Ending) (w' : World) : Prop := ∃ v, e = .returned (.tuple #[.agg #[v], .int .i64 z]) ∧ Cls w' w'.heap.size v cs ∧ Below W.heap.size W w'
end Go.Proofs.YthonaeigacfmbaaGreatDoor
namespace Go.Proofs.YthonaeigacfmbaaGreatDoor
open Go.RowKit

set_option maxHeartbeats 1600000 in
set_option maxRecDepth 100000 in
theorem refPack (t : Tr) (hsz : szT t ≤ 8192) (w : World) (Sq : Nat → Prop) (v : Value) (hS : Bel Sq w.heap.size) (hin : InT w Sq v t) :
    Calls Tryz.prog 111 #[v] w (PkPost (celT t 0) 0 w) := by
  have hb := (Below.refl w.heap.size w).alloc (Nat.le_refl _) (.cells #[.slice none 0 0] 46)
  have hs : (w.alloc (.cells #[.slice none 0 0] 46)).heap.size = w.heap.size + 1 := by simp
  have hin1 := hin.below hS hb
  have c1 := refHole (szT t) t (Nat.le_refl _) (by omega) _ Sq v hin1
  have c2 := refSize (szT t) t (Nat.le_refl _) (by omega) _ Sq v hin1
  have c3 := refCells (szT t) t (Nat.le_refl _) (by omega) 0 (by omega) _ Sq v (fun q h => by have := hS q h; omega) hin1
  obtain ⟨Z, hZ⟩ : ∃ Z, szT t = Z := ⟨_, rfl⟩
  obtain ⟨C, hC⟩ : ∃ C, celT t 0 = C := ⟨_, rfl⟩
  rw [hZ] at c2 hsz
  rw [hC] at c3 ⊢
  have hz : ¬ (8192 : Int) < (Z : Int) := by omega
  obtain ⟨H, hH⟩ : ∃ H, w.heap.size = H := ⟨_, rfl⟩
  have hbx : (w.alloc (.cells #[.slice none 0 0] 46)).heap[H]? = some (.cells #[.slice none 0 0] 46 (0, 0)) := by rw [← hH]; exact heap_alloc_new w _
  have HH := Lib.hid hH
  have HS := Lib.hid hs
  have HB := Lib.hid hb
  have HBX := Lib.hid hbx
  clear hin hin1 hS hZ hC hb hbx hs hH
  go_enter Tryz.func111, Tryz.ntmps111
  go_wp2_with fail
  refine c1.mono ?_
  rintro e w1 ⟨rfl, rfl⟩
  go_wp2_with fail
  refine c2.mono ?_
  rintro e w1 ⟨rfl, rfl⟩
  go_wp2_with fail
  refine c3.mono ?_
  rintro e w1 ⟨v1, rfl, hv1, hb1⟩
  rw [HS.out] at hb1 hv1
  have hbx1 := (hb1.block H (by have := HH.out; omega)).trans HBX.out
  have k0 := cell_of_row w1 H 0 _ _ _ hbx1
  have k0 : w1.cell? ⟨H, 0, none⟩ = some (.slice none 0 0) := k0
  have f0 := frozen_of_row w1 H 0 _ _ hbx1
  have hs1 := hb1.size
  rw [HS.out] at hs1
  have hHw := heap_lt hbx1
  obtain ⟨vs, ho, hf⟩ := hv1
  obtain ⟨A1, C1, rfl⟩ := own_slice5 ho
  have HO := Lib.hid ho
  have HF := Lib.hid hf
  have HB1 := Lib.hid hb1
  clear ho hf hb1 hbx1 c1 c2 c3
  rw [HH.out]
  go_wp2_with fail
  have hbelF : Below H w (w1.setCell ⟨H, 0, none⟩ (.slice A1 C.length C1)) := (by
    have h1 : Below H w w1 := (HH.out ▸ HB.out).trans (HB1.out.mono (by have := HH.out; omega))
    exact h1.setCell (Nat.le_refl _) _)
  have hcls : Cls (w1.setCell ⟨H, 0, none⟩ (.slice A1 C.length C1)) (w1.setCell ⟨H, 0, none⟩ (.slice A1 C.length C1)).heap.size (.slice A1 C.length C1) C := by
    refine OwnC.cls (H := H + 1) ⟨vs, own_setCell (HO.out.mono (by have := HH.out; omega)) _ _ (fun g hg => by have := (HO.out.lt g hg).1; have := HH.out; simp only; omega), HF.out.keep (fun q h => ⟨by have := h.1; have := HH.out; omega, by simpa [World.setCell] using h.2.1, h.2.2⟩) fun b h => Below.heap_setCell _ _ _ _ (by have := h.1; have := HH.out; simp only; omega)⟩
  exact bodyPost_ret (v := .tuple #[.agg #[.slice A1 C.length C1], .int .i64 0]) (by simp [results, Tryz.results111, go_sem, k0]) rfl ⟨_, rfl, hcls, by rw [HH.out]; exact hbelF⟩
end Go.Proofs.YthonaeigacfmbaaGreatDoor
namespace Go.Proofs.YthonaeigacfmbaaGreatDoor
open Go.RowKit

/-! ### SameCells -/
theorem CelAt.open {w : World} {B b o : Nat} {c : Cel} (h : CelAt w B b o c) : ∃ KA kc, w.cell? ⟨b, o, none⟩ = some (.int .i64 c.x.k) ∧ w.cell? ⟨b, o + 1, none⟩ = some (.int .i64 c.x.n) ∧ w.cell? ⟨b, o + 2, none⟩ = some (.string c.x.a) ∧ w.cell? ⟨b, o + 3, none⟩ = some (.string c.x.m) ∧ w.cell? ⟨b, o + 4, none⟩ = some (.slice KA c.ks.length kc) ∧ Sp w B (.slice KA c.ks.length kc) c.ks := by
  obtain ⟨h0, h1, h2, h3, kv, h4, KA, kc, rfl, h5⟩ := h
  exact ⟨KA, kc, h0, h1, h2, h3, h4, KA, kc, rfl, h5⟩
end Go.Proofs.YthonaeigacfmbaaGreatDoor
namespace Go.Proofs.YthonaeigacfmbaaGreatDoor
open Go.RowKit

theorem with_snoc : ∀ (p : List Int) (t T u s : Tr) (i : Int), atT t p = some T → getZ T.2 i = some u → withT t (p ++ [i]) s = withT t p (T.1, T.2.set i.toNat s)
  | [], t, T, u, s, i, h, hg => by
    injection h with h
    subst h
    rw [List.nil_append, withT_some [] s hg]
    rfl
  | j :: p, t, T, u, s, i, h, hg => by
    unfold atT at h
    cases hj : getZ t.2 j with
    | none => rw [hj] at h; cases h
    | some v =>
      rw [hj] at h
      rw [List.cons_append, withT_some (p ++ [i]) s hj, withT_some p _ hj, with_snoc p v T u s i h hg]
theorem PtF.set {w : World} {S : Nat → Prop} {v : Value} {t : Tr} (hv : InT w S v t) : ∀ {vs : List Value} {f : Fr} {m : Nat}, PtF w S vs f → PtF w S (vs.set m v) (f.set m t)
  | [], .nil, _, _ => trivial
  | [], .cons _ _ _, _, h => h.elim
  | _ :: _, .nil, _, h => h.elim
  | _ :: _, .cons _ _ _, 0, h => ⟨hv, h.2⟩
  | _ :: _, .cons _ _ _, _ + 1, h => ⟨h.1, PtF.set hv h.2⟩
theorem PtF.at {w : World} {S : Nat → Prop} : ∀ {vs : List Value} {f : Fr} {m : Nat} {t : Tr}, PtF w S vs f → f.get m = some t → ∃ v, vs[m]? = some v ∧ InT w S v t
  | [], .nil, _, _, _, h => by cases h
  | [], .cons _ _ _, _, _, h, _ => h.elim
  | _ :: _, .nil, _, _, h, _ => h.elim
  | v :: _, .cons _ _ _, 0, _, h, hg => by injection hg with hg; subst hg; exact ⟨v, rfl, h.1⟩
  | _ :: vs, .cons _ _ rs, m + 1, _, h, hg => PtF.at (vs := vs) (f := rs) (m := m) h.2 hg
def Ctx (W : World) (Sq : Nat → Prop) (t : Tr) (p : List Int) (H hb ho : Nat) (wr : World) : Prop :=
  ∀ (w2 : World) (uv : Value) (s : Tr), wr.heap.size ≤ w2.heap.size → (∀ b, b < wr.heap.size → b ≠ hb → w2.heap[b]? = wr.heap[b]?) → (∀ o, o ≠ ho → w2.cell? ⟨hb, o, none⟩ = wr.cell? ⟨hb, o, none⟩) → w2.cell? ⟨hb, ho, none⟩ = some uv →
    InT w2 (Sin Sq W w2) uv s → ∃ v, w2.cell? ⟨H, 0, none⟩ = some v ∧ InT w2 (Sin Sq W w2) v (withT t p s)
theorem cell_same {w : World} {a : Addr} {v u : Value} (h : w.cell? a = some v) : (w.setCell a u).cell? a = some u := by
  apply World.cell?_setCell_same
  exact h
theorem Ctx.step {W wr w5 : World} {Sq : Nat → Prop} {t u : Tr} {x : Nod} {ks : Fr} {p : List Int} {H hb ho C g m N cap : Nat} {us : List Value} (h : Ctx W Sq t p H hb ho wr) (hS : Bel Sq H) (hHW : W.heap.size = H) (hH : H ≤ hb) (hhb : hb < wr.heap.size)
    (hat : atT t p = some (x, ks)) (hg : getZ ks (m : Int) = some u) (hC : wr.heap.size ≤ C) (hgC : wr.heap.size ≤ g) (hCg : C ≠ g) (hN : ks.len = N) (hNc : N ≤ cap) (hC5 : C < w5.heap.size) (hg5 : g < w5.heap.size) (hsz : wr.heap.size ≤ w5.heap.size)
    (hk : ∀ b, b < wr.heap.size → b ≠ hb → w5.heap[b]? = wr.heap[b]?) (hk2 : ∀ o, o ≠ ho → w5.cell? ⟨hb, o, none⟩ = wr.cell? ⟨hb, o, none⟩) (hk3 : w5.cell? ⟨hb, ho, none⟩ = some (.pointer (some ⟨C, 0, none⟩)))
    (hn : Nb w5 C x (.slice (some ⟨g, 0, none⟩) N cap)) (hus : PtF W Sq us ks) (hrow : ∀ (j : Nat) v, us[j]? = some v → w5.cell? ⟨g, j, none⟩ = some v) (hb5 : Below H W wr) : Ctx W Sq t (p ++ [(m : Int)]) H g m w5 := by
  intro w2 uv s h1 h2 h3 h4 h5
  have e := with_snoc p t (x, ks) u s (m : Int) hat hg
  rw [Int.toNat_natCast] at e
  rw [e]
  have hm : m < N := by rw [← hN]; exact Fr.get_lt (getZ_some hg).2
  have hold : ∀ b, Sq b → w2.heap[b]? = W.heap[b]? := fun b hb' => by
    have hb1 := hS b hb'
    have hbs := hb5.size
    rw [h2 b (by omega) (by omega), hk b (by omega) (by omega), hb5.block b hb1]
  have hus2 : PtF w2 (Sin Sq W w2) us ks := hus.keep (fun q h => .inl h) hold
  have hset := PtF.set (m := m) h5 hus2
  have hC2 : w2.heap[C]? = w5.heap[C]? := h2 C hC5 hCg
  have hbW := hb5.size
  refine h w2 (.pointer (some ⟨C, 0, none⟩)) (x, ks.set m s) (by omega) (fun b hb1 hb2 => ?_) (fun o ho1 => ?_) ?_ ?_
  · rw [h2 b (by omega) (by omega), hk b hb1 hb2]
  · rw [World.cell?_of_block (w := w5) (h2 hb (by omega) (by omega)), hk2 o ho1]
  · rw [World.cell?_of_block (w := w5) (h2 hb (by omega) (by omega)), hk3]
  · have hn2 : Nb w2 C x (.slice (some ⟨g, 0, none⟩) N cap) := hC2.trans hn
    have c : ∀ i u, (#[Value.int .i64 x.k, .int .i64 x.n, .string x.a, .string x.m, .slice (some ⟨g, 0, none⟩) N cap] : Array Value)[i]? = some u → w2.cell? ⟨C, i, none⟩ = some u := by
      intro i u hu
      rw [cell_of_row w2 C i _ _ _ hn2]
      exact hu
    have hl : (ks.set m s).len = N := by rw [Fr.len_set]; exact hN
    refine ⟨C, 0, some ⟨g, 0, none⟩, cap, rfl, .inr ⟨by omega, by omega⟩, ⟨_, _, hn2⟩, c 0 _ rfl, c 1 _ rfl, c 2 _ rfl, c 3 _ rfl, by simp only [hl]; exact c 4 _ rfl, by simp only [hl]; exact hNc, fun _ => ⟨g, 0, rfl, .inr ⟨by omega, by omega⟩, hset.row fun j v hv => ?_⟩⟩
    rw [Nat.zero_add]
    by_cases ej : j = m
    · subst ej
      rw [List.getElem?_set_self (by rw [hus.len]; omega)] at hv
      injection hv with hv
      rw [h4, hv]
    · rw [List.getElem?_set_ne (Ne.symm ej)] at hv
      rw [h3 j ej]
      exact hrow j v hv
end Go.Proofs.YthonaeigacfmbaaGreatDoor
