/-
  Plain facts, without the program: a token's own text is lexed as it; behind a token a blank changes nothing.
-/
import Derived.Test.YthonaeigacfmbaaGreatDoorGq15
namespace Go.Proofs.YthonaeigacfmbaaGreatDoor.B
open Go.Lib

def Bl (y : List Nat) : Prop := y = [] ∨ ∃ u, y = 32 :: u
theorem cnt_bl {f : Nat → Bool} (hf : f 32 = false) {y : List Nat} (h : Bl y) : cnt f y = 0 := by
  rcases h with rfl | ⟨u, rfl⟩
  · rfl
  · simp [cnt, hf]
theorem lng32 : lng 32 = false := by decide
theorem inr32 : inr 32 = false := by decide
theorem dig32 : dig 32 = false := by decide
theorem pre_ext {x : List Nat} (hx : 32 ∉ x) (d : List Nat) {y : List Nat} (h : Bl y) : x.isPrefixOf (d ++ y) = x.isPrefixOf d := by
  rcases h with rfl | ⟨u, rfl⟩
  · rw [List.append_nil]
  · rw [Bool.eq_iff_iff, List.isPrefixOf_iff_prefix, List.isPrefixOf_iff_prefix]
    constructor
    · intro hp
      by_cases hl : x.length ≤ d.length
      · exact List.prefix_of_prefix_length_le hp (List.prefix_append _ _) hl
      · exfalso
        apply hx
        obtain ⟨t, ht⟩ := hp
        have h1 : (d ++ 32 :: u)[d.length]? = some 32 := by simp
        rw [← ht, List.getElem?_append_left (by omega)] at h1
        exact List.mem_of_getElem? h1
    · intro hp
      exact hp.trans (List.prefix_append _ _)
theorem sign32 : ∀ x ∈ SIGNS, 32 ∉ x := by decide
theorem opens_ext (d : List Nat) {y : List Nat} (h : Bl y) : opens (d ++ y) = opens d := pre_ext (x := [40, 42]) (by decide) d h
theorem find_congr {α : Type} {f g : α → Bool} {l : List α} (h : ∀ x ∈ l, f x = g x) : l.find? f = l.find? g := by
  induction l with
  | nil => rfl
  | cons a t ih =>
    have ha := h a (by simp)
    have := ih fun x hx => h x (by simp [hx])
    simp only [List.find?_cons, ha, this]
theorem sign_ext (d : List Nat) {y : List Nat} (h : Bl y) : signT (d ++ y) = signT d := by
  unfold signT
  rw [find_congr fun x hx => pre_ext (sign32 x hx) d h]
theorem cmt_closed {d : List Nat} (h : opens d = false) : cmt d = 0 := by unfold cmt; rw [h]; rfl
/-! ### a token's own text -/
theorem cls_blk {r : Nat} (h : cls r ≠ 3) : blk r = false := by unfold blk; rw [decide_eq_false_iff_not]; exact h
theorem val_app (x : List Nat) (r : Nat) : ∀ a, val a (x ++ [r]) = 10 * val a x + (r - 48) := by
  induction x with
  | nil => intro a; rfl
  | cons y t ih => intro a; exact ih _
theorem val_dgs (u : Nat) : val 0 (dgs u) = u := by
  induction u using Nat.strongRecOn with
  | _ u ih =>
    unfold dgs
    rw [decDigits]
    split
    · rename_i h
      show val (10 * 0 + ((UInt8.ofNat (48 + u)).toNat - 48)) [] = u
      rw [u8n _ (by omega)]
      show 10 * 0 + (48 + u - 48) = u
      omega
    · rename_i h
      rw [List.map_append]
      show val 0 (dgs (u / 10) ++ [(UInt8.ofNat (48 + u % 10)).toNat]) = u
      rw [val_app, ih (u / 10) (by omega), u8n _ (by omega)]
      omega
theorem digT_own (b : Bool) (u : Nat) (hu : u ≤ 1073741824) {y : List Nat} (h : Bl y) :
    digT b (dgs u ++ y) = some (if b then (⟨2, numb (-(u : Int)), -(u : Int)⟩, 1 + (dgs u).length) else (⟨2, numb (u : Int), (u : Int)⟩, (dgs u).length)) := by
  have hall : ∀ r ∈ dgs u, dig r = true := fun r hr => (dig_is r).2 (dgs_digit u r hr)
  have hc : cnt dig (dgs u ++ y) = (dgs u).length := by rw [cnt_all hall, cnt_bl dig32 h]; rfl
  have hne : (dgs u).length ≠ 0 := fun e => dgs_ne u (List.eq_nil_of_length_eq_zero e)
  unfold digT
  rw [hc, List.take_left, List.drop_left, cnt_bl inr32 h, if_neg (by omega), if_neg hne, val_dgs, if_neg (by omega)]
theorem numb_own (v : Int) (hv : -1073741824 ≤ v ∧ v ≤ 1073741824) {y : List Nat} (h : Bl y) : numT (numb v ++ y) = some (⟨2, numb v, v⟩, (numb v).length) := by
  by_cases hn : v < 0
  · have e1 : numb v = 126 :: dgs v.natAbs := by unfold numb; rw [if_pos hn]
    have e2 : -((v.natAbs : Nat) : Int) = v := by omega
    have := digT_own true v.natAbs (by omega) h
    rw [e2] at this
    rw [e1]
    show digT true (dgs v.natAbs ++ y) = _
    rw [this, if_pos rfl, e1, List.length_cons, Nat.add_comm]
  · have e1 : numb v = dgs v.toNat := by unfold numb; rw [if_neg hn]
    have e2 : ((v.toNat : Nat) : Int) = v := by omega
    have := digT_own false v.toNat (by omega) h
    rw [e2] at this
    rw [e1]
    have e3 : numT (dgs v.toNat ++ y) = digT false (dgs v.toNat ++ y) := by
      unfold numT
      split
      · rename_i d e
        exfalso
        cases hd : dgs v.toNat with
        | nil => exact dgs_ne _ hd
        | cons r t =>
          have hr := dgs_digit v.toNat r (by rw [hd]; simp)
          rw [hd] at e
          injection e with e4 e5
          omega
      · rfl
    rw [e3, this, e1]
    rfl
theorem digT_val {b : Bool} {d : List Nat} {t : Tok} {n : Nat} (h : digT b d = some (t, n)) : t.k = 2 ∧ t.x = numb t.n ∧ -1073741824 ≤ t.n ∧ t.n ≤ 1073741824 := by
  unfold digT at h
  split at h
  · cases h
  split at h
  · cases h
  split at h
  · cases h
  · rename_i h1 h2 h3
    cases b
    · simp at h
      obtain ⟨rfl, _⟩ := h
      exact ⟨rfl, rfl, by dsimp only; omega, by dsimp only; omega⟩
    · simp at h
      obtain ⟨rfl, _⟩ := h
      exact ⟨rfl, rfl, by dsimp only; omega, by dsimp only; omega⟩
theorem sign_self : ∀ x ∈ SIGNS, SIGNS.find? (fun z => z.isPrefixOf x) = some x := by decide
theorem sign_head : ∀ x ∈ SIGNS, ∃ r u, x = r :: u ∧ cls (r : Int) = 0 ∧ r ≠ 126 := by
  intro x hx
  have : ∀ x ∈ SIGNS, (match x with | [] => false | r :: _ => decide (cls (r : Int) = 0 ∧ r ≠ 126)) = true := by decide
  have hk := this x hx
  cases x with
  | nil => cases hk
  | cons r u => exact ⟨r, u, rfl, by simpa using hk⟩
theorem sign_open : ∀ x ∈ SIGNS, opens x = false := by decide
theorem tok_own {d : List Nat} {t : Tok} {n : Nat} (h : tokT d = some (t, n)) {y : List Nat} (hy : Bl y) : tokT (t.x ++ y) = some (t, t.x.length) ∧ btw (t.x ++ y) = 0 ∧ t.x ≠ [] := by
  cases d with
  | nil => cases h
  | cons r u =>
    have e2 : tokT (r :: u) = if cls r = 1 then nameT (r :: u) else if cls r = 2 ∨ r = 126 then numT (r :: u) else if opens (r :: u) then none else signT (r :: u) := rfl
    rw [e2] at h
    have head : ∀ (s : Nat) (z : List Nat), cls (s : Int) ≠ 3 → opens (s :: z) = false → btw (s :: z) = 0 := fun s z h1 h2 =>
      btw_zero (by simp [cnt, cls_blk h1]) (cmt_closed h2)
    by_cases c1 : cls (r : Int) = 1
    · rw [if_pos c1] at h
      have hl1 : lng r = true := by simp [lng, inr, c1]
      obtain ⟨c, hc⟩ : ∃ c, cnt lng (r :: u) = c := ⟨_, rfl⟩
      have hcl := cnt_le lng (r :: u)
      have hall := cnt_take (f := lng) (r :: u)
      have hc1 : 1 ≤ c := by rw [← hc]; exact cnt_head hl1
      rw [hc] at hall hcl
      obtain ⟨x, hx⟩ : ∃ x, (r :: u).take c = x := ⟨_, rfl⟩
      have hxl : x.length = c := by rw [← hx, List.length_take]; omega
      obtain ⟨v, rfl⟩ : ∃ v, x = r :: v := by
        cases c with
        | zero => omega
        | succ c => exact ⟨u.take c, by rw [← hx]; rfl⟩
      rw [hx] at hall
      have hcx : cnt lng ((r :: v) ++ y) = (r :: v).length := by rw [cnt_all hall, cnt_bl lng32 hy]; rfl
      have hop : opens ((r :: v) ++ y) = false := by
        cases ho : opens ((r :: v) ++ y)
        · rfl
        · exfalso
          obtain ⟨w, hw⟩ := List.isPrefixOf_iff_prefix.1 ho
          injection hw with h1 h2
          rw [← h1] at c1
          exact absurd c1 (by decide)
      have hb : btw ((r :: v) ++ y) = 0 := head r (v ++ y) (by rw [c1]; decide) hop
      have en : tokT ((r :: v) ++ y) = nameT ((r :: v) ++ y) := by
        show (if cls (r : Int) = 1 then _ else _) = _
        rw [if_pos c1]
      unfold nameT at h
      rw [hc, hx] at h
      by_cases w1 : wrd (T (r :: v))
      · rw [if_pos w1] at h
        injection h with h
        injection h with h1 h2
        subst h1
        refine ⟨?_, hb, by simp⟩
        show tokT ((r :: v) ++ y) = _
        rw [en]
        unfold nameT
        rw [hcx, List.take_left, if_pos w1]
      · rw [if_neg w1] at h
        by_cases w2 : isLong (r :: v)
        · rw [if_pos w2] at h
          injection h with h
          injection h with h1 h2
          subst h1
          refine ⟨?_, hb, by simp⟩
          show tokT ((r :: v) ++ y) = _
          rw [en]
          unfold nameT
          rw [hcx, List.take_left, if_neg w1, if_pos w2]
        · rw [if_neg w2] at h
          cases h
    · rw [if_neg c1] at h
      by_cases c2 : cls (r : Int) = 2 ∨ r = 126
      · rw [if_pos c2] at h
        obtain ⟨k1, k2, k3⟩ : t.k = 2 ∧ t.x = numb t.n ∧ -1073741824 ≤ t.n ∧ t.n ≤ 1073741824 := by
          unfold numT at h
          split at h
          · exact digT_val h
          · exact digT_val h
        have hown := numb_own t.n k3 hy
        rw [← k2] at hown
        have ht : (⟨2, t.x, t.n⟩ : Tok) = t := by
          cases t; simp at k1; simp [k1]
        rw [ht] at hown
        obtain ⟨s, z, hs, hcs⟩ : ∃ s z, t.x = s :: z ∧ (cls (s : Int) = 2 ∨ s = 126) := by
          rw [k2]
          unfold numb
          split
          · exact ⟨126, _, rfl, .inr rfl⟩
          · cases hd : dgs t.n.toNat with
            | nil => exact absurd hd (dgs_ne _)
            | cons s z => exact ⟨s, z, rfl, .inl (by
                have := (dig_is s).2 (dgs_digit _ s (by rw [hd]; simp))
                unfold dig at this
                simpa using this)⟩
        have hs1 : cls (s : Int) ≠ 1 ∧ cls (s : Int) ≠ 3 := by
          rcases hcs with h1 | rfl
          · rw [h1]; decide
          · decide
        have hop : opens ((s :: z) ++ y) = false := by
          cases ho : opens ((s :: z) ++ y)
          · rfl
          · exfalso
            obtain ⟨w, hw⟩ := List.isPrefixOf_iff_prefix.1 ho
            injection hw with h1 h2
            rw [← h1] at hcs
            rcases hcs with h3 | h3
            · exact absurd h3 (by decide)
            · omega
        rw [hs] at hown ⊢
        refine ⟨?_, head s (z ++ y) hs1.2 hop, by simp⟩
        show (if cls (s : Int) = 1 then _ else if cls (s : Int) = 2 ∨ s = 126 then numT ((s :: z) ++ y) else _) = _
        rw [if_neg hs1.1, if_pos hcs]
        exact hown
      · rw [if_neg c2] at h
        split at h
        · cases h
        · unfold signT at h
          obtain ⟨x, hx, he⟩ := Option.map_eq_some_iff.1 h
          have hm := (find_pre hx).1
          injection he with h1 h2
          subst h1
          obtain ⟨s, z, rfl, hc0, h126⟩ := sign_head x hm
          have hop : opens ((s :: z) ++ y) = false := by rw [opens_ext _ hy]; exact sign_open _ hm
          refine ⟨?_, head s (z ++ y) (by rw [hc0]; decide) hop, by simp⟩
          show (if cls (s : Int) = 1 then _ else if cls (s : Int) = 2 ∨ s = 126 then _ else if opens ((s :: z) ++ y) then none else signT ((s :: z) ++ y)) = _
          rw [if_neg (by rw [hc0]; decide), if_neg (by rw [hc0]; simp [h126]), if_neg (by rw [hop]; simp), sign_ext _ hy]
          unfold signT
          rw [sign_self _ hm]
          rfl
end Go.Proofs.YthonaeigacfmbaaGreatDoor.B
namespace Go.Proofs.YthonaeigacfmbaaGreatDoor.B
open Go.Lib

theorem ckr_T {L : List Nat} (h : okl L) (hr : ∀ r ∈ L, rdb (r : Int) = true) (hs : sz L ≤ 16384) : ckr (T L) = (0, 0) := by
  have k := ck_T (l := L) [] h hr
  unfold ckr
  rw [if_neg (by rw [T_size]; omega)]
  exact k
theorem lexR_T {L : List Nat} (h : okl L) (hr : ∀ r ∈ L, rdb (r : Int) = true) (hs : sz L ≤ 16384) :
    lexR (T L) = (match lexL L 0 with | .inl l => (l, 0, 0) | .inr a => ([], (a : Int), 5)) := by
  unfold lexR
  rw [ckr_T h hr hs, if_pos rfl, rns_T h]
  cases lexL L 0 <;> rfl
end Go.Proofs.YthonaeigacfmbaaGreatDoor.B
namespace Go.Proofs.YthonaeigacfmbaaGreatDoor.B
open Go.Lib

theorem rdb_plain {r : Nat} (h : 33 ≤ r ∧ r ≤ 126) : rdb (r : Int) = true := by
  unfold rdb
  rw [Bool.not_eq_true', decide_eq_false_iff_not]
  omega
theorem tok_self {d : List Nat} {t : Tok} {n : Nat} (h : tokT d = some (t, n)) (p : Nat) : lexL t.x p = .inl [(t, p)] := by
  obtain ⟨h1, h2, h3⟩ := tok_own h (y := []) (.inl rfl)
  rw [List.append_nil] at h1 h2
  have e : lexL t.x p = match lexL ((t.x.drop (btw t.x)).drop t.x.length) (p + sz (t.x.take (btw t.x)) + sz ((t.x.drop (btw t.x)).take t.x.length)) with
      | .inl r => .inl ((t, p + sz (t.x.take (btw t.x))) :: r)
      | .inr e => .inr e := lex_next (by rw [h2]; exact h3) (by rw [h2]; exact h1)
  rw [e, h2, List.drop_zero, List.drop_length, lex_end (l := []) rfl]
  rfl
def jnL : List (List Nat) → List Nat
  | [] => []
  | [x] => x
  | x :: y :: r => x ++ 32 :: jnL (y :: r)
theorem btw_blank : btw [32] = [32].length := by decide
def Made (t : Tok) : Prop := ∃ d n, tokT d = some (t, n)
theorem lex_jn : ∀ (ts : List Tok) (p : Nat), (∀ t ∈ ts, Made t) → ∃ r, lexL (jnL (ts.map (·.x))) p = .inl r ∧ r.map (·.1) = ts
  | [], p, _ => ⟨[], lex_end (l := []) rfl, rfl⟩
  | [t], p, h => by
    obtain ⟨d, n, hd⟩ := h t (by simp)
    exact ⟨[(t, p)], tok_self hd p, rfl⟩
  | t :: u :: r, p, h => by
    obtain ⟨d, n, hd⟩ := h t (by simp)
    have hB : Bl (32 :: jnL ((u :: r).map (·.x))) := .inr ⟨_, rfl⟩
    obtain ⟨h1, h2, h3⟩ := tok_own hd hB
    obtain ⟨r', h4, h5⟩ := lex_jn (u :: r) (p + sz t.x + 1) (fun x hx => h x (by simp [hx]))
    refine ⟨(t, p) :: r', ?_, by simp [h5]⟩
    show lexL (t.x ++ 32 :: jnL ((u :: r).map (·.x))) p = _
    have hsk : lexL (32 :: jnL ((u :: r).map (·.x))) (p + sz t.x) = .inl r' := by
      have := lex_absorb btw_blank (jnL ((u :: r).map (·.x))) (p + sz t.x)
      rw [show sz [32] = 1 from by rw [sz_cons, (wd_ascii (r := 32) (by omega)).1]; rfl] at this
      rw [← h4]
      exact this
    rw [lex_next (by rw [h2]; simp) (by rw [h2]; exact h1), h2]
    simp only [List.drop_zero, List.take_zero, sz_nil, Nat.add_zero, List.drop_left, List.take_left, hsk]
theorem jnL_cons (x y : List Nat) (r : List (List Nat)) : jnL (x :: y :: r) = x ++ 32 :: jnL (y :: r) := rfl
theorem jn_enc : ∀ xs : List (List Nat), enc (jnL xs) = join (xs.map enc) [32]
  | [] => rfl
  | [x] => (join_one _ _).symm
  | x :: y :: r => by
    have ih := jn_enc (y :: r)
    rw [jnL_cons, enc_app]
    show enc x ++ (en 32 ++ enc (jnL (y :: r))) = _
    rw [ih, (wd_ascii (r := 32) (by omega)).2]
    unfold join
    simp [List.intercalate]
theorem jn_mem : ∀ (xs : List (List Nat)), ∀ r ∈ jnL xs, r = 32 ∨ ∃ x ∈ xs, r ∈ x
  | [], r, h => by cases h
  | [x], r, h => .inr ⟨x, by simp, h⟩
  | x :: y :: z, r, h => by
    rw [jnL_cons] at h
    rcases List.mem_append.1 h with h | h
    · exact .inr ⟨x, by simp, h⟩
    · rcases List.mem_cons.1 h with h | h
      · exact .inl h
      · rcases jn_mem (y :: z) r h with h | ⟨w, h1, h2⟩
        · exact .inl h
        · exact .inr ⟨w, by simp at h1 ⊢; right; exact h1, h2⟩
end Go.Proofs.YthonaeigacfmbaaGreatDoor.B
