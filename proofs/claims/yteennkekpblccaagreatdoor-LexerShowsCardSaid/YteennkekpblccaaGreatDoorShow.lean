/-
  The lexer's Show: what it tells of any tokens.
-/
import Derived.Test.YteennkekpblccaaGreatDoorTold
namespace Go.Proofs.YteennkekpblccaaGreatDoor
open Go.RowKit

/-- A token as it comes in: its text any bytes. -/
structure RTok where
  k : Int
  s : ByteArray
  n : Int
  a : Int
def raw (x : Tok × Nat) : RTok := ⟨x.1.k, T x.1.x, x.1.n, (x.2 : Nat)⟩
def RTks (w : World) (B : Nat) (v : Value) (l : List RTok) : Prop :=
  ∃ A c, v = .slice A l.length c ∧ ∀ (j : Nat) t, l[j]? = some t → ∃ ad, A = some ad ∧ ad.block < B ∧ TokAt w (ad.add (j * 4)) t.k t.s t.n t.a
theorem RTks.below {w w' : World} {B : Nat} {v : Value} {l : List RTok} (h : RTks w B v l) (hb : Below B w w') : RTks w' B v l := by
  obtain ⟨A, c, hv, hc⟩ := h
  refine ⟨A, c, hv, fun j t ht => ?_⟩
  obtain ⟨ad, hA, hlt, hcell⟩ := hc j t ht
  exact ⟨ad, hA, hlt, hcell.below hb (by rw [addBlock]; exact hlt)⟩
theorem Tks.raw {w : World} {B : Nat} {v : Value} {l : List (Tok × Nat)} (h : Tks w B v l) : RTks w B v (l.map raw) := by
  obtain ⟨A, c, rfl⟩ := h.form
  refine ⟨A, c, by rw [List.length_map], fun j t ht => ?_⟩
  rw [List.getElem?_map] at ht
  obtain ⟨x, hx, rfl⟩ := Option.map_eq_some_iff.1 ht
  obtain ⟨ad, hA, hlt, hat⟩ := h.at_ hx
  exact ⟨ad, hA, hlt, hat⟩
def tld (t : RTok) : Bool := toldB t.k t.s t.n
def strs (l : List RTok) : List Value := l.map fun t => Value.string t.s
def shB (l : List RTok) : ByteArray := ⟨(Lib.join (l.map fun t => t.s.data.toList) [32]).toArray⟩
def ShowPost (l : List RTok) (W : World) (e : Ending) (w' : World) : Prop :=
  e = .returned (.tuple #[.string (if l.all tld then shB l else ⟨#[]⟩), .int .i64 (if l.all tld then 0 else 2)]) ∧ Below W.heap.size W w'
theorem show_no {l : List RTok} {W w' : World} (h : l.all tld = false) (hb : Below W.heap.size W w') : ShowPost l W (.returned (.tuple #[.string ⟨#[]⟩, .int .i64 2])) w' := by
  unfold ShowPost; rw [h]; exact ⟨rfl, hb⟩
theorem show_yes {l : List RTok} {W w' : World} {s : ByteArray} (h : l.all tld = true) (hs : s = shB l) (hb : Below W.heap.size W w') : ShowPost l W (.returned (.tuple #[.string s, .int .i64 0])) w' := by
  unfold ShowPost; rw [h, hs]; exact ⟨rfl, hb⟩
theorem infoStr : (Tryz.prog.info? 9).map (fun i => (i.zero, i.size, i.bytes)) = some (some (.string ⟨#[]⟩), 1, 16) := by kernel_rfl
theorem strs_one (l : List RTok) : ∀ u ∈ strs l, u.oneCell' = true := by
  intro u hu
  obtain ⟨t, _, rfl⟩ := List.mem_map.1 hu
  rfl
theorem strs_take {l : List RTok} {k : Nat} {t : RTok} (h : l[k]? = some t) : strs (l.take (k + 1)) = strs (l.take k) ++ [.string t.s] := by
  unfold strs
  rw [List.take_add_one, h]
  simp
theorem all_told {l : List RTok} (h : ∀ (j : Nat) t, j < l.length → l[j]? = some t → tld t = true) : l.all tld = true := by
  rw [List.all_eq_true]
  intro y hy
  obtain ⟨j, hj, rfl⟩ := List.getElem_of_mem hy
  exact h j _ hj (List.getElem?_eq_getElem hj)
theorem not_told {l : List RTok} {j : Nat} {t : RTok} (h : l[j]? = some t) (hp : tld t = false) : l.all tld = false := by
  rw [List.all_eq_false]
  exact ⟨t, List.mem_of_getElem? h, by rw [hp]; simp⟩
/-- Join, of a row that the call owns. -/
theorem join_any {w : World} {base : Nat} {e : TypeId} {v : Value} {l : List RTok} (h : w.ownsRow base e 1 v l.length (strs l)) (hlen : (Lib.join (l.map fun t => t.s.data.toList) [32]).length ≤ 1000000000) (hl : l.length ≤ 1000000000) :
    Calls Tryz.prog 10 #[v, .string ⟨#[32]⟩] w (StrPost (shB l) w) := by
  rcases h.2 with ⟨rfl, h0⟩ | ⟨g, cap, cur, rfl, hb, hh, hc, hm, hs, ht⟩
  · have hl0 : l = [] := List.eq_nil_of_length_eq_zero h0
    subst hl0
    exact (Tryz.strings_Join_none none 0 ⟨#[32]⟩ w).mono fun _ _ k => ⟨k.1, by rw [k.2]; exact Below.refl _ _⟩
  · have hg : g < w.heap.size := heap_lt hh
    have k := Tryz.strings_Join g 0 cap (l.map (·.s)) ⟨#[32]⟩ w (fun j x hx => by
      rw [List.getElem?_map] at hx
      obtain ⟨t, ht', rfl⟩ := Option.map_eq_some_iff.1 hx
      have := h.cells (g := g) rfl j (.string t.s) (by unfold strs; rw [List.getElem?_map, ht']; rfl)
      have e : (⟨g, 0, none⟩ : Addr).add j = ⟨g, 0 + j, none⟩ := by unfold Addr.add; split <;> simp_all
      rw [e] at this
      exact this) hg (by rw [List.length_map]; omega) (by rw [List.length_map]; exact hc) (by rw [List.map_map]; exact Nat.le_trans hlen (by omega))
    rw [List.length_map] at k
    exact k.mono fun _ _ hk => ⟨by rw [hk.1, List.map_map]; rfl, hk.2⟩

set_option maxHeartbeats 6400000 in
set_option maxRecDepth 100000 in
theorem show_any (v : Value) (l : List RTok) (B : Nat) (hl : l.length ≤ 1000000) (hx : ∀ t ∈ l, t.s.size ≤ 1000000000) (hj : (Lib.join (l.map fun t => t.s.data.toList) [32]).length ≤ 1000000000) (w : World) (hL : Lx w) (ht : RTks w B v l) (hB : B ≤ w.heap.size) :
    Calls Tryz.prog 4 #[v] w (ShowPost l w) := by
  obtain ⟨A, c, rfl, hA⟩ := ht
  have HA := Lib.hid hA
  have HX := Lib.hid hx
  have HJ := Lib.hid hj
  clear hA hx hj
  obtain ⟨n, hn⟩ : ∃ n, l.length = n := ⟨_, rfl⟩
  rw [hn] at hl ⊢
  have HN := Lib.hid hn
  clear hn
  obtain ⟨i0, hi, hz0, hz1, hz2⟩ := info_parts infoStr
  go_enter Tryz.func4, Tryz.ntmps4
  go_wp2_with (at_make; (refine wpList_make_own _ rfl _ _ 33 rfl w.heap.size 9 i0 (.string ⟨#[]⟩) 1 Tryz.underlying33 hi hz0 hz1 _ _ _ n rfl rfl rfl (by rw [hz2]; omega) (by unfold maxLen; omega) (Nat.le_refl _) ?_); intro w1 hown1 hgrow1)
  have hb0 : Below w.heap.size w w1 := (Below.refl _ _).grown hgrow1 (Nat.le_refl _) (fun k h => by cases h)
  clear hgrow1
  go_loopw [4, 12] (fun z i wr => ∃ k : Nat, k ≤ n ∧ i = .int .i64 k ∧ Below w.heap.size w wr ∧ wr.ownsRow w.heap.size 9 1 z k (strs (l.take k)) ∧ ∀ (j : Nat) t, j < k → l[j]? = some t → tld t = true) (fun _ i _ => n - (intOf i).toNat)
  case atStart => exact ⟨0, Nat.zero_le _, rfl, hb0, hown1, fun j t hj => absurd hj (Nat.not_lt_zero _)⟩
  case round =>
    obtain ⟨k, hk, rfl, hbw, hown, hall⟩ := hrel
    have HALL := Lib.hid hall
    have HOWN := Lib.hid hown
    clear hall hown hown1
    by_cases hlt : k < n
    · obtain ⟨x, hx⟩ : ∃ x, l[k]? = some x := ⟨_, List.getElem?_eq_getElem (by rw [HN.out]; exact hlt)⟩
      obtain ⟨ad, rfl, hadB, hat⟩ := HA.out k x hx
      have hat2 := hat.below hbw (by rw [addBlock]; omega)
      have c1 := fun W hL => told_any x.k x.s x.n x.a (HX.out x (List.mem_of_getElem? hx)) W hL
      have HXK := Lib.hid hx
      have HT : Hid (tld x = toldB x.k x.s x.n) := Lib.hid rfl
      have HST := Lib.hid (strs_take hx)
      clear hat hx hadB
      obtain ⟨K, X, M, P⟩ := x
      dsimp only at hat2 c1 HT HST
      obtain ⟨p0, p1, p2, p3⟩ := hat2
      have C1 := Lib.hid c1
      clear c1
      have hbwa := hbw.alloc hbw.size (.cells #[.int .i64 K, .string X, .int .i64 M, .int .i64 P] 24)
      obtain ⟨b, hb⟩ : ∃ b, toldB K X M = b := ⟨_, rfl⟩
      rw [hb] at C1 HT
      clear hb
      go_wp2_with fail
      refine (C1.out _ (hL.below hbwa)).mono ?_
      rintro e w2 ⟨rfl, hb2⟩
      obtain ⟨⟨r0, r1, r2, r3⟩, _⟩ := ((Rc.newc wr #[.int .i64 K, .string X, .int .i64 M, .int .i64 P]).below hb2).cells
      have hbw2 := hbwa.trans (hb2.mono hbwa.size)
      have hown2 := own_below (HOWN.out.alloc (.cells #[.int .i64 K, .string X, .int .i64 M, .int .i64 P] 24)) hb2
      have HOWN2 := Lib.hid hown2
      have hs2 := hbw2.size
      clear hown2 hb2 p0 p1 p2 p3
      cases b
      · go_wp2
        go_ret2
        exact show_no (not_told HXK.out HT.out) hbw2
      · go_wp2_with (at_builtin; (refine wpList_append_own _ rfl _ _ 33 rfl w.heap.size 9 i0 (.string ⟨#[]⟩) 1 16 Tryz.underlying33 hi hz0 hz1 hz2 rfl (by decide) _ _ _ rfl (HOWN2.out.alloc _) ⟨w2.heap.size, 0, none⟩ 1 1 [.string X] rfl rfl (cell_one_new _ _ _) (fun x hx => by simp at hx; subst hx; rfl) (by unfold maxLen; omega) (by omega) (by simp; omega) ?_); intro v' w4 hown4 hgrow4 _)
        have hbel := (hbw2.alloc hs2 _).grown hgrow4 (by simp; omega) (fun g hg => (HOWN2.out.lt g hg).1)
        have HBEL := Lib.hid hbel
        have HOWN4 := Lib.hid hown4
        clear hbel hown4 hgrow4 r0 r1 r2 r3
        go_roundw
        case rel => exact ⟨k + 1, by omega, by go_num, HBEL.out, by rw [HST.out]; exact HOWN4.out, fun j t hj ht => by
          rcases Nat.lt_or_ge j k with h | h
          · exact HALL.out j t h ht
          · have hjk : j = k := by omega
            subst hjk
            rw [HXK.out] at ht
            injection ht with ht
            subst ht
            exact HT.out⟩
        case measure => simp [intOf]; omega
    · have hkn : k = n := by omega
      subst hkn
      have hown5 := HOWN.out
      rw [List.take_of_length_le (by rw [HN.out]; exact Nat.le_refl _), ← HN.out] at hown5
      have c2 := join_any hown5 HJ.out (by rw [HN.out]; omega)
      obtain ⟨Y, hY⟩ : ∃ Y, shB l = Y := ⟨_, rfl⟩
      rw [hY] at c2
      have HY := Lib.hid hY
      clear hY hown5
      go_wp2_with fail
      refine c2.mono ?_
      rintro e w3 ⟨rfl, hb3⟩
      have hfin := hbw.trans (hb3.mono hbw.size)
      go_wp2
      go_ret2
      exact show_yes (all_told (by rw [HN.out]; exact HALL.out)) HY.out.symm hfin
end Go.Proofs.YteennkekpblccaaGreatDoor
