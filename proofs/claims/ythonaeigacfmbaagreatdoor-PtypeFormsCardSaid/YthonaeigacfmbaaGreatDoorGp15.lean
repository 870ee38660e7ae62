/-
  Plain facts, without the program: a token's own text is lexed as it; behind a token a blank changes nothing.
-/
import Derived.Test.YthonaeigacfmbaaGreatDoorGp13
namespace Go.Proofs.YthonaeigacfmbaaGreatDoor.B
open Go.Lib

def Bl (y : List Nat) : Prop := y = [] ∨ ∃ u, y = 32 :: u
theorem cnt_bl {f : Nat → Bool} (hf : f 32 = false) {y : List Nat} (h : Bl y) : cnt f y = 0 := by
  rcases h with rfl | ⟨u, rfl⟩
  · rfl
  · simp [cnt, hf]
theorem lng32 : lng 32 = false := by decide
theorem inr32 : inr 32 = false := by decide
theorem dig32 : dig 32 = false := by decide
theorem pre_ext {x : List Nat} (hx : 32 ∉ x) (d : List Nat) {y : List Nat} (h : Bl y) : x.isPrefixOf (d ++ y) = x.isPrefixOf d := by
  rcases h with rfl | ⟨u, rfl⟩
  · rw [List.append_nil]
  · rw [Bool.eq_iff_iff, List.isPrefixOf_iff_prefix, List.isPrefixOf_iff_prefix]
    constructor
    · intro hp
      by_cases hl : x.length ≤ d.length
      · exact List.prefix_of_prefix_length_le hp (List.prefix_append _ _) hl
      · exfalso
        apply hx
        obtain ⟨t, ht⟩ := hp
        have h1 : (d ++ 32 :: u)[d.length]? = some 32 := by simp
        rw [← ht, List.getElem?_append_left (by omega)] at h1
        exact List.mem_of_getElem? h1
    · intro hp
      exact hp.trans (List.prefix_append _ _)
theorem sign32 : ∀ x ∈ SIGNS, 32 ∉ x := by decide
theorem opens_ext (d : List Nat) {y : List Nat} (h : Bl y) : opens (d ++ y) = opens d := pre_ext (x := [40, 42]) (by decide) d h
theorem find_congr {α : Type} {f g : α → Bool} {l : List α} (h : ∀ x ∈ l, f x = g x) : l.find? f = l.find? g := by
  induction l with
  | nil => rfl
  | cons a t ih =>
    have ha := h a (by simp)
    have := ih fun x hx => h x (by simp [hx])
    simp only [List.find?_cons, ha, this]
theorem sign_ext (d : List Nat) {y : List Nat} (h : Bl y) : signT (d ++ y) = signT d := by
  unfold signT
  rw [find_congr fun x hx => pre_ext (sign32 x hx) d h]
theorem cmt_closed {d : List Nat} (h : opens d = false) : cmt d = 0 := by unfold cmt; rw [h]; rfl
/-! ### a token's own text -/
theorem cls_blk {r : Nat} (h : cls r ≠ 3) : blk r = false := by unfold blk; rw [decide_eq_false_iff_not]; exact h
theorem val_app (x : List Nat) (r : Nat) : ∀ a, val a (x ++ [r]) = 10 * val a x + (r - 48) := by
  induction x with
  | nil => intro a; rfl
  | cons y t ih => intro a; exact ih _
theorem val_dgs (u : Nat) : val 0 (dgs u) = u := by
  induction u using Nat.strongRecOn with
  | _ u ih =>
    unfold dgs
    rw [decDigits]
    split
    · rename_i h
      show val (10 * 0 + ((UInt8.ofNat (48 + u)).toNat - 48)) [] = u
      rw [u8n _ (by omega)]
      show 10 * 0 + (48 + u - 48) = u
      omega
    · rename_i h
      rw [List.map_append]
      show val 0 (dgs (u / 10) ++ [(UInt8.ofNat (48 + u % 10)).toNat]) = u
      rw [val_app, ih (u / 10) (by omega), u8n _ (by omega)]
      omega
theorem digT_own (b : Bool) (u : Nat) (hu : u ≤ 1073741824) {y : List Nat} (h : Bl y) :
    digT b (dgs u ++ y) = some (if b then (⟨2, numb (-(u : Int)), -(u : Int)⟩, 1 + (dgs u).length) else (⟨2, numb (u : Int), (u : Int)⟩, (dgs u).length)) := by
  have hall : ∀ r ∈ dgs u, dig r = true := fun r hr => (dig_is r).2 (dgs_digit u r hr)
  have hc : cnt dig (dgs u ++ y) = (dgs u).length := by rw [cnt_all hall, cnt_bl dig32 h]; rfl
  have hne : (dgs u).length ≠ 0 := fun e => dgs_ne u (List.eq_nil_of_length_eq_zero e)
  unfold digT
  rw [hc, List.take_left, List.drop_left, cnt_bl inr32 h, if_neg (by omega), if_neg hne, val_dgs, if_neg (by omega)]
theorem numb_own (v : Int) (hv : -1073741824 ≤ v ∧ v ≤ 1073741824) {y : List Nat} (h : Bl y) : numT (numb v ++ y) = some (⟨2, numb v, v⟩, (numb v).length) := by
  by_cases hn : v < 0
  · have e1 : numb v = 126 :: dgs v.natAbs := by unfold numb; rw [if_pos hn]
    have e2 : -((v.natAbs : Nat) : Int) = v := by omega
    have := digT_own true v.natAbs (by omega) h
    rw [e2] at this
    rw [e1]
    show digT true (dgs v.natAbs ++ y) = _
    rw [this, if_pos rfl, e1, List.length_cons, Nat.add_comm]
  · have e1 : numb v = dgs v.toNat := by unfold numb; rw [if_neg hn]
    have e2 : ((v.toNat : Nat) : Int) = v := by omega
    have := digT_own false v.toNat (by omega) h
    rw [e2] at this
    rw [e1]
    have e3 : numT (dgs v.toNat ++ y) = digT false (dgs v.toNat ++ y) := by
      unfold numT
      split
      · rename_i d e
        exfalso
        cases hd : dgs v.toNat with
        | nil => exact dgs_ne _ hd
        | cons r t =>
          have hr := dgs_digit v.toNat r (by rw [hd]; simp)
          rw [hd] at e
          injection e with e4 e5
          omega
      · rfl
    rw [e3, this, e1]
    rfl
theorem digT_val {b : Bool} {d : List Nat} {t : Tok} {n : Nat} (h : digT b d = some (t, n)) : t.k = 2 ∧ t.x = numb t.n ∧ -1073741824 ≤ t.n ∧ t.n ≤ 1073741824 := by
  unfold digT at h
  split at h
  · cases h
  split at h
  · cases h
  split at h
  · cases h
  · rename_i h1 h2 h3
    cases b
    · simp at h
      obtain ⟨rfl, _⟩ := h
      exact ⟨rfl, rfl, by dsimp only; omega, by dsimp only; omega⟩
    · simp at h
      obtain ⟨rfl, _⟩ := h
      exact ⟨rfl, rfl, by dsimp only; omega, by dsimp only; omega⟩
theorem sign_self : ∀ x ∈ SIGNS, SIGNS.find? (fun z => z.isPrefixOf x) = some x := by decide
theorem sign_head : ∀ x ∈ SIGNS, ∃ r u, x = r :: u ∧ cls (r : Int) = 0 ∧ r ≠ 126 := by
  intro x hx
  have : ∀ x ∈ SIGNS, (match x with | [] => false | r :: _ => decide (cls (r : Int) = 0 ∧ r ≠ 126)) = true := by decide
  have hk := this x hx
  cases x with
  | nil => cases hk
  | cons r u => exact ⟨r, u, rfl, by simpa using hk⟩
theorem sign_open : ∀ x ∈ SIGNS, opens x = false := by decide
theorem tok_own {d : List Nat} {t : Tok} {n : Nat} (h : tokT d = some (t, n)) {y : List Nat} (hy : Bl y) : tokT (t.x ++ y) = some (t, t.x.length) ∧ btw (t.x ++ y) = 0 ∧ t.x ≠ [] := by
  cases d with
  | nil => cases h
  | cons r u =>
    have e2 : tokT (r :: u) = if cls r = 1 then nameT (r :: u) else if cls r = 2 ∨ r = 126 then numT (r :: u) else if opens (r :: u) then none else signT (r :: u) := rfl
    rw [e2] at h
    have head : ∀ (s : Nat) (z : List Nat), cls (s : Int) ≠ 3 → opens (s :: z) = false → btw (s :: z) = 0 := fun s z h1 h2 =>
      btw_zero (by simp [cnt, cls_blk h1]) (cmt_closed h2)
    by_cases c1 : cls (r : Int) = 1
    · rw [if_pos c1] at h
      have hl1 : lng r = true := by simp [lng, inr, c1]
      obtain ⟨c, hc⟩ : ∃ c, cnt lng (r :: u) = c := ⟨_, rfl⟩
      have hcl := cnt_le lng (r :: u)
      have hall := cnt_take (f := lng) (r :: u)
      have hc1 : 1 ≤ c := by rw [← hc]; exact cnt_head hl1
      rw [hc] at hall hcl
      obtain ⟨x, hx⟩ : ∃ x, (r :: u).take c = x := ⟨_, rfl⟩
      have hxl : x.length = c := by rw [← hx, List.length_take]; omega
      obtain ⟨v, rfl⟩ : ∃ v, x = r :: v := by
        cases c with
        | zero => omega
        | succ c => exact ⟨u.take c, by rw [← hx]; rfl⟩
      rw [hx] at hall
      have hcx : cnt lng ((r :: v) ++ y) = (r :: v).length := by rw [cnt_all hall, cnt_bl lng32 hy]; rfl
      have hop : opens ((r :: v) ++ y) = false := by
        cases ho : opens ((r :: v) ++ y)
        · rfl
        · exfalso
          obtain ⟨w, hw⟩ := List.isPrefixOf_iff_prefix.1 ho
          injection hw with h1 h2
          rw [← h1] at c1
          exact absurd c1 (by decide)
      have hb : btw ((r :: v) ++ y) = 0 := head r (v ++ y) (by rw [c1]; decide) hop
      have en : tokT ((r :: v) ++ y) = nameT ((r :: v) ++ y) := by
        show (if cls (r : Int) = 1 then _ else _) = _
        rw [if_pos c1]
      unfold nameT at h
      rw [hc, hx] at h
      by_cases w1 : wrd (T (r :: v))
      · rw [if_pos w1] at h
        injection h with h
        injection h with h1 h2
        subst h1
        refine ⟨?_, hb, by simp⟩
        show tokT ((r :: v) ++ y) = _
        rw [en]
        unfold nameT
        rw [hcx, List.take_left, if_pos w1]
      · rw [if_neg w1] at h
        by_cases w2 : isLong (r :: v)
        · rw [if_pos w2] at h
          injection h with h
          injection h with h1 h2
          subst h1
          refine ⟨?_, hb, by simp⟩
          show tokT ((r :: v) ++ y) = _
          rw [en]
          unfold nameT
          rw [hcx, List.take_left, if_neg w1, if_pos w2]
        · rw [if_neg w2] at h
          cases h
    · rw [if_neg c1] at h
      by_cases c2 : cls (r : Int) = 2 ∨ r = 126
      · rw [if_pos c2] at h
        obtain ⟨k1, k2, k3⟩ : t.k = 2 ∧ t.x = numb t.n ∧ -1073741824 ≤ t.n ∧ t.n ≤ 1073741824 := by
          unfold numT at h
          split at h
          · exact digT_val h
          · exact digT_val h
        have hown := numb_own t.n k3 hy
        rw [← k2] at hown
        have ht : (⟨2, t.x, t.n⟩ : Tok) = t := by
          cases t; simp at k1; simp [k1]
        rw [ht] at hown
        obtain ⟨s, z, hs, hcs⟩ : ∃ s z, t.x = s :: z ∧ (cls (s : Int) = 2 ∨ s = 126) := by
          rw [k2]
          unfold numb
          split
          · exact ⟨126, _, rfl, .inr rfl⟩
          · cases hd : dgs t.n.toNat with
            | nil => exact absurd hd (dgs_ne _)
            | cons s z => exact ⟨s, z, rfl, .inl (by
                have := (dig_is s).2 (dgs_digit _ s (by rw [hd]; simp))
                unfold dig at this
                simpa using this)⟩
        have hs1 : cls (s : Int) ≠ 1 ∧ cls (s : Int) ≠ 3 := by
          rcases hcs with h1 | rfl
          · rw [h1]; decide
          · decide
        have hop : opens ((s :: z) ++ y) = false := by
          cases ho : opens ((s :: z) ++ y)
          · rfl
          · exfalso
            obtain ⟨w, hw⟩ := List.isPrefixOf_iff_prefix.1 ho
            injection hw with h1 h2
            rw [← h1] at hcs
            rcases hcs with h3 | h3
            · exact absurd h3 (by decide)
            · omega
        rw [hs] at hown ⊢
        refine ⟨?_, head s (z ++ y) hs1.2 hop, by simp⟩
        show (if cls (s : Int) = 1 then _ else if cls (s : Int) = 2 ∨ s = 126 then numT ((s :: z) ++ y) else _) = _
        rw [if_neg hs1.1, if_pos hcs]
        exact hown
      · rw [if_neg c2] at h
        split at h
        · cases h
        · unfold signT at h
          obtain ⟨x, hx, he⟩ := Option.map_eq_some_iff.1 h
          have hm := (find_pre hx).1
          injection he with h1 h2
          subst h1
          obtain ⟨s, z, rfl, hc0, h126⟩ := sign_head x hm
          have hop : opens ((s :: z) ++ y) = false := by rw [opens_ext _ hy]; exact sign_open _ hm
          refine ⟨?_, head s (z ++ y) (by rw [hc0]; decide) hop, by simp⟩
          show (if cls (s : Int) = 1 then _ else if cls (s : Int) = 2 ∨ s = 126 then _ else if opens ((s :: z) ++ y) then none else signT ((s :: z) ++ y)) = _
          rw [if_neg (by rw [hc0]; decide), if_neg (by rw [hc0]; simp [h126]), if_neg (by rw [hop]; simp), sign_ext _ hy]
          unfold signT
          rw [sign_self _ hm]
          rfl
end Go.Proofs.YthonaeigacfmbaaGreatDoor.B
namespace Go.Proofs.YthonaeigacfmbaaGreatDoor.B
open Go.Lib

structure Txt (s : ByteArray) (L : List Nat) : Prop where
  ok : okl L
  rd : ∀ r ∈ L, rdb (r : Int) = true
  txt : T L = s
  size : s.size ≤ 16384
theorem ckr_ok' {s : ByteArray} (h : (ckr s).2 = 0) : ∃ L, Txt s L ∧ rns s 0 = L := by
  unfold ckr at h
  by_cases hs : 16384 < s.size
  · rw [if_pos hs] at h; exact absurd h (by decide)
  · rw [if_neg hs] at h
    rcases ck_ok s 0 with ⟨h1, h2, h3, h4⟩ | h1
    · exact ⟨_, ⟨rns_okl h3, h4, T_rns h3, by omega⟩, rfl⟩
    · rw [h] at h1; exact absurd h1 (by decide)
theorem ckr_T {L : List Nat} (h : okl L) (hr : ∀ r ∈ L, rdb (r : Int) = true) (hs : sz L ≤ 16384) : ckr (T L) = (0, 0) := by
  have k := ck_T (l := L) [] h hr
  unfold ckr
  rw [if_neg (by rw [T_size]; omega)]
  exact k
theorem lexR_T {L : List Nat} (h : okl L) (hr : ∀ r ∈ L, rdb (r : Int) = true) (hs : sz L ≤ 16384) :
    lexR (T L) = (match lexL L 0 with | .inl l => (l, 0, 0) | .inr a => ([], (a : Int), 5)) := by
  unfold lexR
  rw [ckr_T h hr hs, if_pos rfl, rns_T h]
  cases lexL L 0 <;> rfl
theorem lexR_out {s : ByteArray} {l : List (Tok × Nat)} {a b : Int} (h : lexR s = (l, a, b)) : (b = 0 ∧ a = 0 ∧ ∃ L, Txt s L ∧ lexL L 0 = .inl l) ∨ (b ≠ 0 ∧ l = []) := by
  unfold lexR at h
  by_cases hc : (ckr s).2 = 0
  · rw [if_pos hc] at h
    obtain ⟨L, hL, hr⟩ := ckr_ok' hc
    rw [hr] at h
    cases e : lexL L 0 with
    | inl r =>
      rw [e] at h
      injection h with h1 h2
      injection h2 with h2 h3
      subst h1
      exact .inl ⟨h3.symm, h2.symm, L, hL, e⟩
    | inr q =>
      rw [e] at h
      injection h with h1 h2
      injection h2 with h2 h3
      exact .inr ⟨by rw [← h3]; decide, h1.symm⟩
  · rw [if_neg hc] at h
    injection h with h1 h2
    injection h2 with h2 h3
    exact .inr ⟨by rw [← h3]; exact hc, h1.symm⟩
theorem lex_len : ∀ (n : Nat) (l : List Nat) (a : Nat) (toks : List (Tok × Nat)), l.length ≤ n → lexL l a = .inl toks → toks.length ≤ l.length
  | n, l, a, toks, hn, h => by
    by_cases he : l.drop (btw l) = []
    · rw [lex_end he] at h
      injection h with h
      subst h
      exact Nat.zero_le _
    · cases ht : tokT (l.drop (btw l)) with
      | none => rw [lex_bad he ht] at h; cases h
      | some tn =>
        obtain ⟨t, j⟩ := tn
        have hj := tokT_some ht
        have hj2 := hj.2
        simp only [List.length_drop] at hj2
        rw [lex_next he ht] at h
        cases hx : lexL ((l.drop (btw l)).drop j) (a + sz (l.take (btw l)) + sz ((l.drop (btw l)).take j)) with
        | inr r => rw [hx] at h; cases h
        | inl q =>
          rw [hx] at h
          simp only [Sum.inl.injEq] at h
          subst h
          cases n with
          | zero => omega
          | succ n =>
            have := lex_len n _ _ _ (by simp only [List.length_drop]; omega) hx
            simp only [List.length_drop] at this
            simp only [List.length_cons]
            omega
theorem lex_len' {s : ByteArray} {L : List Nat} (hL : Txt s L) {toks : List (Tok × Nat)} (h : lexL L 0 = .inl toks) : toks.length ≤ s.size := by
  have h1 := lex_len _ L 0 toks (Nat.le_refl _) h
  have h2 := sz_len L
  have h3 : s.size = sz L := by rw [← hL.txt, T_size]
  omega
end Go.Proofs.YthonaeigacfmbaaGreatDoor.B
namespace Go.Proofs.YthonaeigacfmbaaGreatDoor.B
open Go.Lib

theorem numb_chars (v : Int) : ∀ r ∈ numb v, 33 ≤ r ∧ r ≤ 126 := by
  intro r hr
  unfold numb at hr
  split at hr
  · rcases List.mem_cons.1 hr with rfl | hr
    · omega
    · have := dgs_digit _ r hr; omega
  · have := dgs_digit _ r hr; omega
theorem numb_len (v : Int) (h : -1073741824 ≤ v ∧ v ≤ 1073741824) : sz (numb v) ≤ 21 := by
  have h1 := itoa_length_le v (by omega) (by omega)
  rw [sz_ascii (numb_ascii v)]
  unfold numb dgs
  unfold itoa at h1
  split
  · rename_i hn
    rw [if_pos hn] at h1
    simpa using h1
  · rename_i hn
    rw [if_neg hn] at h1
    simpa using h1
theorem tok_shape {d : List Nat} {t : Tok} {n : Nat} (h : tokT d = some (t, n)) :
    t.x = d.take n ∨ (t.x = numb t.n ∧ -1073741824 ≤ t.n ∧ t.n ≤ 1073741824) := by
  cases d with
  | nil => cases h
  | cons r u =>
    have e2 : tokT (r :: u) = if cls r = 1 then nameT (r :: u) else if cls r = 2 ∨ r = 126 then numT (r :: u) else if opens (r :: u) then none else signT (r :: u) := rfl
    rw [e2] at h
    split at h
    · left
      unfold nameT at h
      split at h
      · injection h with h
        injection h with h1 h2
        rw [← h1, ← h2]
      · split at h
        · injection h with h
          injection h with h1 h2
          rw [← h1, ← h2]
        · cases h
    · split at h
      · right
        unfold numT at h
        split at h
        · exact (digT_val h).2
        · exact (digT_val h).2
      · split at h
        · cases h
        · left
          unfold signT at h
          obtain ⟨x, hx, he⟩ := Option.map_eq_some_iff.1 h
          have hp := (find_pre hx).2
          injection he with h1 h2
          rw [← h1, ← h2]
          exact (List.prefix_iff_eq_take.1 hp)
theorem rdb_plain {r : Nat} (h : 33 ≤ r ∧ r ≤ 126) : rdb (r : Int) = true := by
  unfold rdb
  rw [Bool.not_eq_true', decide_eq_false_iff_not]
  omega
theorem tok_text {d : List Nat} {t : Tok} {n : Nat} (h : tokT d = some (t, n)) (ho : okl d) (hr : ∀ r ∈ d, rdb (r : Int) = true) :
    okl t.x ∧ (∀ r ∈ t.x, rdb (r : Int) = true) ∧ sz t.x ≤ sz (d.take n) + 21 := by
  rcases tok_shape h with e | ⟨e, hv⟩
  · rw [e]
    exact ⟨okl_take ho n, fun r hr' => hr r (List.mem_of_mem_take hr'), by omega⟩
  · rw [e]
    refine ⟨ok_ascii (numb_ascii _), fun r hr' => rdb_plain (numb_chars _ r hr'), ?_⟩
    have := numb_len t.n hv
    omega
theorem tok_self {d : List Nat} {t : Tok} {n : Nat} (h : tokT d = some (t, n)) (p : Nat) : lexL t.x p = .inl [(t, p)] := by
  obtain ⟨h1, h2, h3⟩ := tok_own h (y := []) (.inl rfl)
  rw [List.append_nil] at h1 h2
  have e : lexL t.x p = match lexL ((t.x.drop (btw t.x)).drop t.x.length) (p + sz (t.x.take (btw t.x)) + sz ((t.x.drop (btw t.x)).take t.x.length)) with
      | .inl r => .inl ((t, p + sz (t.x.take (btw t.x))) :: r)
      | .inr e => .inr e := lex_next (by rw [h2]; exact h3) (by rw [h2]; exact h1)
  rw [e, h2, List.drop_zero, List.drop_length, lex_end (l := []) rfl]
  rfl
def jnL : List (List Nat) → List Nat
  | [] => []
  | [x] => x
  | x :: y :: r => x ++ 32 :: jnL (y :: r)
theorem btw_blank : btw [32] = [32].length := by decide
def Made (t : Tok) : Prop := ∃ d n, tokT d = some (t, n)
theorem lex_jn : ∀ (ts : List Tok) (p : Nat), (∀ t ∈ ts, Made t) → ∃ r, lexL (jnL (ts.map (·.x))) p = .inl r ∧ r.map (·.1) = ts
  | [], p, _ => ⟨[], lex_end (l := []) rfl, rfl⟩
  | [t], p, h => by
    obtain ⟨d, n, hd⟩ := h t (by simp)
    exact ⟨[(t, p)], tok_self hd p, rfl⟩
  | t :: u :: r, p, h => by
    obtain ⟨d, n, hd⟩ := h t (by simp)
    have hB : Bl (32 :: jnL ((u :: r).map (·.x))) := .inr ⟨_, rfl⟩
    obtain ⟨h1, h2, h3⟩ := tok_own hd hB
    obtain ⟨r', h4, h5⟩ := lex_jn (u :: r) (p + sz t.x + 1) (fun x hx => h x (by simp [hx]))
    refine ⟨(t, p) :: r', ?_, by simp [h5]⟩
    show lexL (t.x ++ 32 :: jnL ((u :: r).map (·.x))) p = _
    have hsk : lexL (32 :: jnL ((u :: r).map (·.x))) (p + sz t.x) = .inl r' := by
      have := lex_absorb btw_blank (jnL ((u :: r).map (·.x))) (p + sz t.x)
      rw [show sz [32] = 1 from by rw [sz_cons, (wd_ascii (r := 32) (by omega)).1]; rfl] at this
      rw [← h4]
      exact this
    rw [lex_next (by rw [h2]; simp) (by rw [h2]; exact h1), h2]
    simp only [List.drop_zero, List.take_zero, sz_nil, Nat.add_zero, List.drop_left, List.take_left, hsk]
theorem jnL_cons (x y : List Nat) (r : List (List Nat)) : jnL (x :: y :: r) = x ++ 32 :: jnL (y :: r) := rfl
theorem jn_enc : ∀ xs : List (List Nat), enc (jnL xs) = join (xs.map enc) [32]
  | [] => rfl
  | [x] => (join_one _ _).symm
  | x :: y :: r => by
    have ih := jn_enc (y :: r)
    rw [jnL_cons, enc_app]
    show enc x ++ (en 32 ++ enc (jnL (y :: r))) = _
    rw [ih, (wd_ascii (r := 32) (by omega)).2]
    unfold join
    simp [List.intercalate]
theorem jn_mem : ∀ (xs : List (List Nat)), ∀ r ∈ jnL xs, r = 32 ∨ ∃ x ∈ xs, r ∈ x
  | [], r, h => by cases h
  | [x], r, h => .inr ⟨x, by simp, h⟩
  | x :: y :: z, r, h => by
    rw [jnL_cons] at h
    rcases List.mem_append.1 h with h | h
    · exact .inr ⟨x, by simp, h⟩
    · rcases List.mem_cons.1 h with h | h
      · exact .inl h
      · rcases jn_mem (y :: z) r h with h | ⟨w, h1, h2⟩
        · exact .inl h
        · exact .inr ⟨w, by simp at h1 ⊢; right; exact h1, h2⟩
def tot : List (List Nat) → Nat
  | [] => 0
  | x :: r => sz x + 1 + tot r
theorem lex_tot : ∀ (n : Nat) (l : List Nat) (a : Nat) (toks : List (Tok × Nat)), l.length ≤ n → okl l → (∀ r ∈ l, rdb (r : Int) = true) → lexL l a = .inl toks →
    tot (toks.map (·.1.x)) ≤ sz l + 22 * toks.length ∧ ∀ x ∈ toks, Made x.1 ∧ okl x.1.x ∧ ∀ r ∈ x.1.x, rdb (r : Int) = true
  | n, l, a, toks, hn, ho, hr, h => by
    by_cases he : l.drop (btw l) = []
    · rw [lex_end he] at h
      injection h with h
      subst h
      exact ⟨Nat.zero_le _, fun x hx => by cases hx⟩
    · cases ht : tokT (l.drop (btw l)) with
      | none => rw [lex_bad he ht] at h; cases h
      | some tn =>
        obtain ⟨t, j⟩ := tn
        have hj := tokT_some ht
        have hj2 := hj.2
        simp only [List.length_drop] at hj2
        rw [lex_next he ht] at h
        have hod := okl_drop ho (btw l)
        have hrd : ∀ r ∈ l.drop (btw l), rdb (r : Int) = true := fun r h => hr r (List.mem_of_mem_drop h)
        obtain ⟨k1, k2, k3⟩ := tok_text ht hod hrd
        cases hx : lexL ((l.drop (btw l)).drop j) (a + sz (l.take (btw l)) + sz ((l.drop (btw l)).take j)) with
        | inr r => rw [hx] at h; cases h
        | inl q =>
          rw [hx] at h
          simp only [Sum.inl.injEq] at h
          subst h
          cases n with
          | zero => omega
          | succ n =>
            obtain ⟨i1, i2⟩ := lex_tot n _ _ _ (by simp only [List.length_drop]; omega) (okl_drop hod j) (fun r h => hrd r (List.mem_of_mem_drop h)) hx
            have hs1 : sz l = sz (l.take (btw l)) + sz (l.drop (btw l)) := by rw [← sz_app, List.take_append_drop]
            have hs2 : sz (l.drop (btw l)) = sz ((l.drop (btw l)).take j) + sz ((l.drop (btw l)).drop j) := by rw [← sz_app, List.take_append_drop]
            refine ⟨?_, ?_⟩
            · show sz t.x + 1 + tot (q.map (·.1.x)) ≤ _
              rw [List.length_cons]
              omega
            · intro x hx'
              rcases List.mem_cons.1 hx' with rfl | hx'
              · exact ⟨⟨_, _, ht⟩, k1, k2⟩
              · exact i2 x hx'
end Go.Proofs.YthonaeigacfmbaaGreatDoor.B
namespace Go.Proofs.YthonaeigacfmbaaGreatDoor.B
open Go.RowKit

structure RTok where
  k : Int
  s : ByteArray
  n : Int
  a : Int
def RTks (w : World) (B : Nat) (v : Value) (l : List RTok) : Prop :=
  ∃ A c, v = .slice A l.length c ∧ ∀ (j : Nat) t, l[j]? = some t → ∃ ad, A = some ad ∧ ad.block < B ∧ TokAt w (ad.add (j * 4)) t.k t.s t.n t.a
theorem RTks.below {w w' : World} {B : Nat} {v : Value} {l : List RTok} (h : RTks w B v l) (hb : Below B w w') : RTks w' B v l := by
  obtain ⟨A, c, hv, hc⟩ := h
  refine ⟨A, c, hv, fun j t ht => ?_⟩
  obtain ⟨ad, hA, hlt, hcell⟩ := hc j t ht
  exact ⟨ad, hA, hlt, hcell.below hb (by rw [addBlock]; exact hlt)⟩
end Go.Proofs.YthonaeigacfmbaaGreatDoor.B
