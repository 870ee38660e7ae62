/-
  Plain facts, without the program: a token's own text is lexed as it; behind a token a blank changes nothing.
-/
import Derived.Test.YteennkekpblccaaGreatDoorLexQ
namespace Go.Proofs.YteennkekpblccaaGreatDoor
open Go.Lib

/-- Nothing, or a blank and what stands behind it. -/
def Bl (y : List Nat) : Prop := y = [] ∨ ∃ u, y = 32 :: u
theorem cls32 : cls ((32 : Nat) : Int) = 3 := by decide
theorem cnt_bl {f : Nat → Bool} (hf : f 32 = false) {y : List Nat} (h : Bl y) : cnt f y = 0 := by
  rcases h with rfl | ⟨u, rfl⟩
  · rfl
  · simp [cnt, hf]
theorem lng32 : lng 32 = false := by decide
theorem inr32 : inr 32 = false := by decide
theorem dig32 : dig 32 = false := by decide
theorem cnt_ext {f : Nat → Bool} (hf : f 32 = false) (d : List Nat) {y : List Nat} (h : Bl y) : cnt f (d ++ y) = cnt f d := by
  by_cases hc : cnt f d = d.length
  · rw [cnt_all (cnt_full hc) y, cnt_bl hf h, hc, Nat.add_zero]
  · have := cnt_le f d
    exact cnt_app (by omega) y
theorem pre_ext {x : List Nat} (hx : 32 ∉ x) (d : List Nat) {y : List Nat} (h : Bl y) : x.isPrefixOf (d ++ y) = x.isPrefixOf d := by
  rcases h with rfl | ⟨u, rfl⟩
  · rw [List.append_nil]
  · rw [Bool.eq_iff_iff, List.isPrefixOf_iff_prefix, List.isPrefixOf_iff_prefix]
    constructor
    · intro hp
      by_cases hl : x.length ≤ d.length
      · exact List.prefix_of_prefix_length_le hp (List.prefix_append _ _) hl
      · exfalso
        apply hx
        obtain ⟨t, ht⟩ := hp
        have h1 : (d ++ 32 :: u)[d.length]? = some 32 := by simp
        rw [← ht, List.getElem?_append_left (by omega)] at h1
        exact List.mem_of_getElem? h1
    · intro hp
      exact hp.trans (List.prefix_append _ _)
theorem sign32 : ∀ x ∈ SIGNS, 32 ∉ x := by decide
theorem opens_ext (d : List Nat) {y : List Nat} (h : Bl y) : opens (d ++ y) = opens d := pre_ext (x := [40, 42]) (by decide) d h
theorem find_congr {α : Type} {f g : α → Bool} {l : List α} (h : ∀ x ∈ l, f x = g x) : l.find? f = l.find? g := by
  induction l with
  | nil => rfl
  | cons a t ih =>
    have ha := h a (by simp)
    have := ih fun x hx => h x (by simp [hx])
    simp only [List.find?_cons, ha, this]
theorem sign_ext (d : List Nat) {y : List Nat} (h : Bl y) : signT (d ++ y) = signT d := by
  unfold signT
  rw [find_congr fun x hx => pre_ext (sign32 x hx) d h]
theorem take_ext {d y : List Nat} {n : Nat} (h : n ≤ d.length) : (d ++ y).take n = d.take n := List.take_append_of_le_length h
theorem name_ext (d : List Nat) {y : List Nat} (h : Bl y) : nameT (d ++ y) = nameT d := by
  unfold nameT
  rw [cnt_ext lng32 d h, take_ext (cnt_le lng d)]
theorem drop_ext {d y : List Nat} {n : Nat} (h : n ≤ d.length) : (d ++ y).drop n = d.drop n ++ y := List.drop_append_of_le_length h
theorem digT_ext (b : Bool) (d : List Nat) {y : List Nat} (h : Bl y) : digT b (d ++ y) = digT b d := by
  unfold digT
  rw [cnt_ext dig32 d h, take_ext (cnt_le dig d), drop_ext (cnt_le dig d), cnt_ext inr32 _ h]
theorem numT_ext {d : List Nat} (hd : d ≠ []) {y : List Nat} (h : Bl y) : numT (d ++ y) = numT d := by
  cases d with
  | nil => exact absurd rfl hd
  | cons r u =>
    by_cases hr : r = 126
    · subst hr
      exact digT_ext true u h
    · have e1 : numT ((r :: u) ++ y) = digT false ((r :: u) ++ y) := by
        unfold numT
        split
        · rename_i e; injection e with e1 e2; exact absurd e1 hr
        · rfl
      have e2 : numT (r :: u) = digT false (r :: u) := by
        unfold numT
        split
        · rename_i e; injection e with e1 e2; exact absurd e1 hr
        · rfl
      rw [e1, e2, digT_ext false _ h]
theorem tok_ext {d : List Nat} (hd : d ≠ []) {y : List Nat} (h : Bl y) : tokT (d ++ y) = tokT d := by
  cases d with
  | nil => exact absurd rfl hd
  | cons r u =>
    have e1 : tokT ((r :: u) ++ y) = if cls r = 1 then nameT ((r :: u) ++ y) else if cls r = 2 ∨ r = 126 then numT ((r :: u) ++ y) else if opens ((r :: u) ++ y) then none else signT ((r :: u) ++ y) := rfl
    have e2 : tokT (r :: u) = if cls r = 1 then nameT (r :: u) else if cls r = 2 ∨ r = 126 then numT (r :: u) else if opens (r :: u) then none else signT (r :: u) := rfl
    rw [e1, e2, name_ext _ h, numT_ext hd h, opens_ext _ h, sign_ext _ h]
theorem tok_opens {d : List Nat} {t : Tok} {n : Nat} (h : tokT d = some (t, n)) : opens d = false := by
  cases d with
  | nil => cases h
  | cons r u =>
    cases ho : opens (r :: u)
    · rfl
    · exfalso
      have hr : r = 40 := by
        obtain ⟨t, ht⟩ := List.isPrefixOf_iff_prefix.1 ho
        injection ht with h1 h2
        exact h1.symm
      subst hr
      have e2 : tokT (40 :: u) = if cls ((40 : Nat) : Int) = 1 then nameT (40 :: u) else if cls ((40 : Nat) : Int) = 2 ∨ (40 : Nat) = 126 then numT (40 :: u) else if opens (40 :: u) then none else signT (40 :: u) := rfl
      rw [e2, if_neg (by decide), if_neg (by decide), ho, if_pos rfl] at h
      cases h
theorem cmt_closed {d : List Nat} (h : opens d = false) : cmt d = 0 := by unfold cmt; rw [h]; rfl
/-- A text, a blank, a text: the tokens of the one, then those of the other. -/
theorem lex_behind : ∀ (n : Nat) (a : List Nat) (p : Nat) (x : List (Tok × Nat)) (u : List Nat), a.length ≤ n → lexL a p = .inl x →
    lexL (a ++ 32 :: u) p = (match lexL (32 :: u) (p + sz a) with | .inl r => .inl (x ++ r) | .inr e => .inr e)
  | n, a, p, x, u, hn, h => by
    have hB : Bl (32 :: u) := .inr ⟨u, rfl⟩
    by_cases he : a.drop (btw a) = []
    · rw [lex_end he] at h
      injection h with h
      subst h
      have hb : btw a = a.length := by
        have h1 := btw_le a
        have h2 := congrArg List.length he
        rw [List.length_drop, List.length_nil] at h2
        omega
      rw [lex_absorb hb]
      cases lexL (32 :: u) (p + sz a) <;> rfl
    · cases e : tokT (a.drop (btw a)) with
      | none => rw [lex_bad he e] at h; cases h
      | some tn =>
        obtain ⟨t, j⟩ := tn
        have hj := tokT_some e
        have hj2 := hj.2
        simp only [List.length_drop] at hj2
        rw [lex_next he e] at h
        have hcm : cmt (a.drop (btw a) ++ 32 :: u) = 0 := cmt_closed (by rw [opens_ext _ hB]; exact tok_opens e)
        have hbk := btw_keep a.length a (32 :: u) (Nat.le_refl _) he hcm
        have hbl := btw_le a
        have hd : (a ++ 32 :: u).drop (btw (a ++ 32 :: u)) = a.drop (btw a) ++ 32 :: u := by rw [hbk]; exact drop_ext hbl
        have ht : (a ++ 32 :: u).take (btw (a ++ 32 :: u)) = a.take (btw a) := by rw [hbk]; exact take_ext hbl
        have e' : tokT ((a ++ 32 :: u).drop (btw (a ++ 32 :: u))) = some (t, j) := by rw [hd, tok_ext he hB]; exact e
        rw [lex_next (by rw [hd]; simp) e', hd, ht, drop_ext hj.2, take_ext hj.2]
        cases hx : lexL ((a.drop (btw a)).drop j) (p + sz (a.take (btw a)) + sz ((a.drop (btw a)).take j)) with
        | inr e => rw [hx] at h; cases h
        | inl r =>
          rw [hx] at h
          simp only [Sum.inl.injEq] at h
          subst h
          cases n with
          | zero => omega
          | succ n =>
            have ih := lex_behind n ((a.drop (btw a)).drop j) _ r u (by simp only [List.length_drop]; omega) hx
            have hs : p + sz (a.take (btw a)) + sz ((a.drop (btw a)).take j) + sz ((a.drop (btw a)).drop j) = p + sz a := by
              have h1 : sz (a.drop (btw a)) = sz ((a.drop (btw a)).take j) + sz ((a.drop (btw a)).drop j) := by rw [← sz_app, List.take_append_drop]
              have h2 : sz a = sz (a.take (btw a)) + sz (a.drop (btw a)) := by rw [← sz_app, List.take_append_drop]
              omega
            rw [ih, hs]
            cases lexL (32 :: u) (p + sz a) <;> rfl

/-! ### a token's own text -/
theorem cls_blk {r : Nat} (h : cls r ≠ 3) : blk r = false := by unfold blk; rw [decide_eq_false_iff_not]; exact h
theorem val_app (x : List Nat) (r : Nat) : ∀ a, val a (x ++ [r]) = 10 * val a x + (r - 48) := by
  induction x with
  | nil => intro a; rfl
  | cons y t ih => intro a; exact ih _
theorem val_dgs (u : Nat) : val 0 (dgs u) = u := by
  induction u using Nat.strongRecOn with
  | _ u ih =>
    unfold dgs
    rw [decDigits]
    split
    · rename_i h
      show val (10 * 0 + ((UInt8.ofNat (48 + u)).toNat - 48)) [] = u
      rw [u8n _ (by omega)]
      show 10 * 0 + (48 + u - 48) = u
      omega
    · rename_i h
      rw [List.map_append]
      show val 0 (dgs (u / 10) ++ [(UInt8.ofNat (48 + u % 10)).toNat]) = u
      rw [val_app, ih (u / 10) (by omega), u8n _ (by omega)]
      omega
theorem dgs_ne (u : Nat) : dgs u ≠ [] := by
  unfold dgs
  rw [decDigits]
  split <;> simp
theorem digT_own (b : Bool) (u : Nat) (hu : u ≤ 1073741824) {y : List Nat} (h : Bl y) :
    digT b (dgs u ++ y) = some (if b then (⟨2, numb (-(u : Int)), -(u : Int)⟩, 1 + (dgs u).length) else (⟨2, numb (u : Int), (u : Int)⟩, (dgs u).length)) := by
  have hall : ∀ r ∈ dgs u, dig r = true := fun r hr => (dig_is r).2 (dgs_digit u r hr)
  have hc : cnt dig (dgs u ++ y) = (dgs u).length := by rw [cnt_all hall, cnt_bl dig32 h]; rfl
  have hne : (dgs u).length ≠ 0 := fun e => dgs_ne u (List.eq_nil_of_length_eq_zero e)
  unfold digT
  rw [hc, List.take_left, List.drop_left, cnt_bl inr32 h, if_neg (by omega), if_neg hne, val_dgs, if_neg (by omega)]
theorem numb_own (v : Int) (hv : -1073741824 ≤ v ∧ v ≤ 1073741824) {y : List Nat} (h : Bl y) : numT (numb v ++ y) = some (⟨2, numb v, v⟩, (numb v).length) := by
  by_cases hn : v < 0
  · have e1 : numb v = 126 :: dgs v.natAbs := by unfold numb; rw [if_pos hn]
    have e2 : -((v.natAbs : Nat) : Int) = v := by omega
    have := digT_own true v.natAbs (by omega) h
    rw [e2] at this
    rw [e1]
    show digT true (dgs v.natAbs ++ y) = _
    rw [this, if_pos rfl, e1, List.length_cons, Nat.add_comm]
  · have e1 : numb v = dgs v.toNat := by unfold numb; rw [if_neg hn]
    have e2 : ((v.toNat : Nat) : Int) = v := by omega
    have := digT_own false v.toNat (by omega) h
    rw [e2] at this
    rw [e1]
    have e3 : numT (dgs v.toNat ++ y) = digT false (dgs v.toNat ++ y) := by
      unfold numT
      split
      · rename_i d e
        exfalso
        cases hd : dgs v.toNat with
        | nil => exact dgs_ne _ hd
        | cons r t =>
          have hr := dgs_digit v.toNat r (by rw [hd]; simp)
          rw [hd] at e
          injection e with e4 e5
          omega
      · rfl
    rw [e3, this, e1]
    rfl
theorem digT_val {b : Bool} {d : List Nat} {t : Tok} {n : Nat} (h : digT b d = some (t, n)) : t.k = 2 ∧ t.x = numb t.n ∧ -1073741824 ≤ t.n ∧ t.n ≤ 1073741824 := by
  unfold digT at h
  split at h
  · cases h
  split at h
  · cases h
  split at h
  · cases h
  · rename_i h1 h2 h3
    cases b
    · simp at h
      obtain ⟨rfl, _⟩ := h
      exact ⟨rfl, rfl, by dsimp only; omega, by dsimp only; omega⟩
    · simp at h
      obtain ⟨rfl, _⟩ := h
      exact ⟨rfl, rfl, by dsimp only; omega, by dsimp only; omega⟩
theorem sign_self : ∀ x ∈ SIGNS, SIGNS.find? (fun z => z.isPrefixOf x) = some x := by decide
theorem sign_head : ∀ x ∈ SIGNS, ∃ r u, x = r :: u ∧ cls (r : Int) = 0 ∧ r ≠ 126 := by
  intro x hx
  have : ∀ x ∈ SIGNS, (match x with | [] => false | r :: _ => decide (cls (r : Int) = 0 ∧ r ≠ 126)) = true := by decide
  have hk := this x hx
  cases x with
  | nil => cases hk
  | cons r u => exact ⟨r, u, rfl, by simpa using hk⟩
theorem sign_open : ∀ x ∈ SIGNS, opens x = false := by decide
/-- What a token's text is: it is lexed as the token, wherever a blank or nothing stands behind it. -/
theorem tok_own {d : List Nat} {t : Tok} {n : Nat} (h : tokT d = some (t, n)) {y : List Nat} (hy : Bl y) : tokT (t.x ++ y) = some (t, t.x.length) ∧ btw (t.x ++ y) = 0 ∧ t.x ≠ [] := by
  cases d with
  | nil => cases h
  | cons r u =>
    have e2 : tokT (r :: u) = if cls r = 1 then nameT (r :: u) else if cls r = 2 ∨ r = 126 then numT (r :: u) else if opens (r :: u) then none else signT (r :: u) := rfl
    rw [e2] at h
    have head : ∀ (s : Nat) (z : List Nat), cls (s : Int) ≠ 3 → opens (s :: z) = false → btw (s :: z) = 0 := fun s z h1 h2 =>
      btw_zero (by simp [cnt, cls_blk h1]) (cmt_closed h2)
    by_cases c1 : cls (r : Int) = 1
    · rw [if_pos c1] at h
      have hl1 : lng r = true := by simp [lng, inr, c1]
      obtain ⟨c, hc⟩ : ∃ c, cnt lng (r :: u) = c := ⟨_, rfl⟩
      have hcl := cnt_le lng (r :: u)
      have hall := cnt_take (f := lng) (r :: u)
      have hc1 : 1 ≤ c := by rw [← hc]; exact cnt_head hl1
      rw [hc] at hall hcl
      obtain ⟨x, hx⟩ : ∃ x, (r :: u).take c = x := ⟨_, rfl⟩
      have hxl : x.length = c := by rw [← hx, List.length_take]; omega
      obtain ⟨v, rfl⟩ : ∃ v, x = r :: v := by
        cases c with
        | zero => omega
        | succ c => exact ⟨u.take c, by rw [← hx]; rfl⟩
      rw [hx] at hall
      have hcx : cnt lng ((r :: v) ++ y) = (r :: v).length := by rw [cnt_all hall, cnt_bl lng32 hy]; rfl
      have hop : opens ((r :: v) ++ y) = false := by
        cases ho : opens ((r :: v) ++ y)
        · rfl
        · exfalso
          obtain ⟨w, hw⟩ := List.isPrefixOf_iff_prefix.1 ho
          injection hw with h1 h2
          rw [← h1] at c1
          exact absurd c1 (by decide)
      have hb : btw ((r :: v) ++ y) = 0 := head r (v ++ y) (by rw [c1]; decide) hop
      have en : tokT ((r :: v) ++ y) = nameT ((r :: v) ++ y) := by
        show (if cls (r : Int) = 1 then _ else _) = _
        rw [if_pos c1]
      unfold nameT at h
      rw [hc, hx] at h
      by_cases w1 : wrd (T (r :: v))
      · rw [if_pos w1] at h
        injection h with h
        injection h with h1 h2
        subst h1
        refine ⟨?_, hb, by simp⟩
        show tokT ((r :: v) ++ y) = _
        rw [en]
        unfold nameT
        rw [hcx, List.take_left, if_pos w1]
      · rw [if_neg w1] at h
        by_cases w2 : isLong (r :: v)
        · rw [if_pos w2] at h
          injection h with h
          injection h with h1 h2
          subst h1
          refine ⟨?_, hb, by simp⟩
          show tokT ((r :: v) ++ y) = _
          rw [en]
          unfold nameT
          rw [hcx, List.take_left, if_neg w1, if_pos w2]
        · rw [if_neg w2] at h
          cases h
    · rw [if_neg c1] at h
      by_cases c2 : cls (r : Int) = 2 ∨ r = 126
      · rw [if_pos c2] at h
        obtain ⟨k1, k2, k3⟩ : t.k = 2 ∧ t.x = numb t.n ∧ -1073741824 ≤ t.n ∧ t.n ≤ 1073741824 := by
          unfold numT at h
          split at h
          · exact digT_val h
          · exact digT_val h
        have hown := numb_own t.n k3 hy
        rw [← k2] at hown
        have ht : (⟨2, t.x, t.n⟩ : Tok) = t := by
          cases t; simp at k1; simp [k1]
        rw [ht] at hown
        obtain ⟨s, z, hs, hcs⟩ : ∃ s z, t.x = s :: z ∧ (cls (s : Int) = 2 ∨ s = 126) := by
          rw [k2]
          unfold numb
          split
          · exact ⟨126, _, rfl, .inr rfl⟩
          · cases hd : dgs t.n.toNat with
            | nil => exact absurd hd (dgs_ne _)
            | cons s z => exact ⟨s, z, rfl, .inl (by
                have := (dig_is s).2 (dgs_digit _ s (by rw [hd]; simp))
                unfold dig at this
                simpa using this)⟩
        have hs1 : cls (s : Int) ≠ 1 ∧ cls (s : Int) ≠ 3 := by
          rcases hcs with h1 | rfl
          · rw [h1]; decide
          · decide
        have hop : opens ((s :: z) ++ y) = false := by
          cases ho : opens ((s :: z) ++ y)
          · rfl
          · exfalso
            obtain ⟨w, hw⟩ := List.isPrefixOf_iff_prefix.1 ho
            injection hw with h1 h2
            rw [← h1] at hcs
            rcases hcs with h3 | h3
            · exact absurd h3 (by decide)
            · omega
        rw [hs] at hown ⊢
        refine ⟨?_, head s (z ++ y) hs1.2 hop, by simp⟩
        show (if cls (s : Int) = 1 then _ else if cls (s : Int) = 2 ∨ s = 126 then numT ((s :: z) ++ y) else _) = _
        rw [if_neg hs1.1, if_pos hcs]
        exact hown
      · rw [if_neg c2] at h
        split at h
        · cases h
        · unfold signT at h
          obtain ⟨x, hx, he⟩ := Option.map_eq_some_iff.1 h
          have hm := (find_pre hx).1
          injection he with h1 h2
          subst h1
          obtain ⟨s, z, rfl, hc0, h126⟩ := sign_head x hm
          have hop : opens ((s :: z) ++ y) = false := by rw [opens_ext _ hy]; exact sign_open _ hm
          refine ⟨?_, head s (z ++ y) (by rw [hc0]; decide) hop, by simp⟩
          show (if cls (s : Int) = 1 then _ else if cls (s : Int) = 2 ∨ s = 126 then _ else if opens ((s :: z) ++ y) then none else signT ((s :: z) ++ y)) = _
          rw [if_neg (by rw [hc0]; decide), if_neg (by rw [hc0]; simp [h126]), if_neg (by rw [hop]; simp), sign_ext _ hy]
          unfold signT
          rw [sign_self _ hm]
          rfl
end Go.Proofs.YteennkekpblccaaGreatDoor
