/-
  Plain facts, without the program: what is shown is lexed as it was, but for its places.
-/
import Derived.Test.YteennkekpblccaaGreatDoorPlc
import Derived.Lib.Join
namespace Go.Proofs.YteennkekpblccaaGreatDoor
open Go.Lib

theorem sign_chars : ∀ x ∈ SIGNS, (∀ r ∈ x, 33 ≤ r ∧ r ≤ 126) ∧ x.length ≤ 2 := by decide
theorem numb_chars (v : Int) : ∀ r ∈ numb v, 33 ≤ r ∧ r ≤ 126 := by
  intro r hr
  unfold numb at hr
  split at hr
  · rcases List.mem_cons.1 hr with rfl | hr
    · omega
    · have := dgs_digit _ r hr; omega
  · have := dgs_digit _ r hr; omega
theorem numb_len (v : Int) (h : -1073741824 ≤ v ∧ v ≤ 1073741824) : sz (numb v) ≤ 21 := by
  have h1 := itoa_length_le v (by omega) (by omega)
  rw [sz_ascii (numb_ascii v)]
  unfold numb dgs
  unfold itoa at h1
  split
  · rename_i hn
    rw [if_pos hn] at h1
    simpa using h1
  · rename_i hn
    rw [if_neg hn] at h1
    simpa using h1
theorem tok_shape {d : List Nat} {t : Tok} {n : Nat} (h : tokT d = some (t, n)) :
    t.x = d.take n ∨ (t.x = numb t.n ∧ -1073741824 ≤ t.n ∧ t.n ≤ 1073741824) := by
  cases d with
  | nil => cases h
  | cons r u =>
    have e2 : tokT (r :: u) = if cls r = 1 then nameT (r :: u) else if cls r = 2 ∨ r = 126 then numT (r :: u) else if opens (r :: u) then none else signT (r :: u) := rfl
    rw [e2] at h
    split at h
    · left
      unfold nameT at h
      split at h
      · injection h with h
        injection h with h1 h2
        rw [← h1, ← h2]
      · split at h
        · injection h with h
          injection h with h1 h2
          rw [← h1, ← h2]
        · cases h
    · split at h
      · right
        unfold numT at h
        split at h
        · exact (digT_val h).2
        · exact (digT_val h).2
      · split at h
        · cases h
        · left
          unfold signT at h
          obtain ⟨x, hx, he⟩ := Option.map_eq_some_iff.1 h
          have hp := (find_pre hx).2
          injection he with h1 h2
          rw [← h1, ← h2]
          exact (List.prefix_iff_eq_take.1 hp)
theorem rdb_plain {r : Nat} (h : 33 ≤ r ∧ r ≤ 126) : rdb (r : Int) = true := by
  unfold rdb
  rw [Bool.not_eq_true', decide_eq_false_iff_not]
  omega
theorem tok_text {d : List Nat} {t : Tok} {n : Nat} (h : tokT d = some (t, n)) (ho : okl d) (hr : ∀ r ∈ d, rdb (r : Int) = true) :
    okl t.x ∧ (∀ r ∈ t.x, rdb (r : Int) = true) ∧ sz t.x ≤ sz (d.take n) + 21 := by
  rcases tok_shape h with e | ⟨e, hv⟩
  · rw [e]
    exact ⟨okl_take ho n, fun r hr' => hr r (List.mem_of_mem_take hr'), by omega⟩
  · rw [e]
    refine ⟨ok_ascii (numb_ascii _), fun r hr' => rdb_plain (numb_chars _ r hr'), ?_⟩
    have := numb_len t.n hv
    omega
theorem tok_self {d : List Nat} {t : Tok} {n : Nat} (h : tokT d = some (t, n)) (p : Nat) : lexL t.x p = .inl [(t, p)] := by
  obtain ⟨h1, h2, h3⟩ := tok_own h (y := []) (.inl rfl)
  rw [List.append_nil] at h1 h2
  have e : lexL t.x p = match lexL ((t.x.drop (btw t.x)).drop t.x.length) (p + sz (t.x.take (btw t.x)) + sz ((t.x.drop (btw t.x)).take t.x.length)) with
      | .inl r => .inl ((t, p + sz (t.x.take (btw t.x))) :: r)
      | .inr e => .inr e := lex_next (by rw [h2]; exact h3) (by rw [h2]; exact h1)
  rw [e, h2, List.drop_zero, List.drop_length, lex_end (l := []) rfl]
  rfl
/-- Texts with a blank between each two. -/
def jn : List (List Nat) → List Nat
  | [] => []
  | [x] => x
  | x :: y :: r => x ++ 32 :: jn (y :: r)
theorem btw_blank : btw [32] = [32].length := by decide
def Made (t : Tok) : Prop := ∃ d n, tokT d = some (t, n)
theorem lex_jn : ∀ (ts : List Tok) (p : Nat), (∀ t ∈ ts, Made t) → ∃ r, lexL (jn (ts.map (·.x))) p = .inl r ∧ r.map (·.1) = ts
  | [], p, _ => ⟨[], lex_end (l := []) rfl, rfl⟩
  | [t], p, h => by
    obtain ⟨d, n, hd⟩ := h t (by simp)
    exact ⟨[(t, p)], tok_self hd p, rfl⟩
  | t :: u :: r, p, h => by
    obtain ⟨d, n, hd⟩ := h t (by simp)
    have hB : Bl (32 :: jn ((u :: r).map (·.x))) := .inr ⟨_, rfl⟩
    obtain ⟨h1, h2, h3⟩ := tok_own hd hB
    obtain ⟨r', h4, h5⟩ := lex_jn (u :: r) (p + sz t.x + 1) (fun x hx => h x (by simp [hx]))
    refine ⟨(t, p) :: r', ?_, by simp [h5]⟩
    show lexL (t.x ++ 32 :: jn ((u :: r).map (·.x))) p = _
    have hsk : lexL (32 :: jn ((u :: r).map (·.x))) (p + sz t.x) = .inl r' := by
      have := lex_absorb btw_blank (jn ((u :: r).map (·.x))) (p + sz t.x)
      rw [show sz [32] = 1 from by rw [sz_cons, (wd_ascii (r := 32) (by omega)).1]; rfl] at this
      rw [← h4]
      exact this
    rw [lex_next (by rw [h2]; simp) (by rw [h2]; exact h1), h2]
    simp only [List.drop_zero, List.take_zero, sz_nil, Nat.add_zero, List.drop_left, List.take_left, hsk]
theorem jn_cons (x y : List Nat) (r : List (List Nat)) : jn (x :: y :: r) = x ++ 32 :: jn (y :: r) := rfl
theorem jn_enc : ∀ xs : List (List Nat), enc (jn xs) = join (xs.map enc) [32]
  | [] => rfl
  | [x] => (join_one _ _).symm
  | x :: y :: r => by
    have ih := jn_enc (y :: r)
    rw [jn_cons, enc_app]
    show enc x ++ (en 32 ++ enc (jn (y :: r))) = _
    rw [ih, (wd_ascii (r := 32) (by omega)).2]
    unfold join
    simp [List.intercalate]
theorem jn_mem : ∀ (xs : List (List Nat)), ∀ r ∈ jn xs, r = 32 ∨ ∃ x ∈ xs, r ∈ x
  | [], r, h => by cases h
  | [x], r, h => .inr ⟨x, by simp, h⟩
  | x :: y :: z, r, h => by
    rw [jn_cons] at h
    rcases List.mem_append.1 h with h | h
    · exact .inr ⟨x, by simp, h⟩
    · rcases List.mem_cons.1 h with h | h
      · exact .inl h
      · rcases jn_mem (y :: z) r h with h | ⟨w, h1, h2⟩
        · exact .inl h
        · exact .inr ⟨w, by simp at h1 ⊢; right; exact h1, h2⟩
def tot : List (List Nat) → Nat
  | [] => 0
  | x :: r => sz x + 1 + tot r
theorem jn_sz : ∀ xs : List (List Nat), sz (jn xs) ≤ tot xs
  | [] => Nat.le_refl _
  | [x] => by show sz x ≤ sz x + 1 + 0; omega
  | x :: y :: r => by
    have ih := jn_sz (y :: r)
    rw [jn_cons, sz_app, sz_cons, (wd_ascii (r := 32) (by omega)).1]
    show _ ≤ sz x + 1 + tot (y :: r)
    omega
theorem lex_tot : ∀ (n : Nat) (l : List Nat) (a : Nat) (toks : List (Tok × Nat)), l.length ≤ n → okl l → (∀ r ∈ l, rdb (r : Int) = true) → lexL l a = .inl toks →
    tot (toks.map (·.1.x)) ≤ sz l + 22 * toks.length ∧ ∀ x ∈ toks, Made x.1 ∧ okl x.1.x ∧ ∀ r ∈ x.1.x, rdb (r : Int) = true
  | n, l, a, toks, hn, ho, hr, h => by
    by_cases he : l.drop (btw l) = []
    · rw [lex_end he] at h
      injection h with h
      subst h
      exact ⟨Nat.zero_le _, fun x hx => by cases hx⟩
    · cases ht : tokT (l.drop (btw l)) with
      | none => rw [lex_bad he ht] at h; cases h
      | some tn =>
        obtain ⟨t, j⟩ := tn
        have hj := tokT_some ht
        have hj2 := hj.2
        simp only [List.length_drop] at hj2
        rw [lex_next he ht] at h
        have hod := okl_drop ho (btw l)
        have hrd : ∀ r ∈ l.drop (btw l), rdb (r : Int) = true := fun r h => hr r (List.mem_of_mem_drop h)
        obtain ⟨k1, k2, k3⟩ := tok_text ht hod hrd
        cases hx : lexL ((l.drop (btw l)).drop j) (a + sz (l.take (btw l)) + sz ((l.drop (btw l)).take j)) with
        | inr r => rw [hx] at h; cases h
        | inl q =>
          rw [hx] at h
          simp only [Sum.inl.injEq] at h
          subst h
          cases n with
          | zero => omega
          | succ n =>
            obtain ⟨i1, i2⟩ := lex_tot n _ _ _ (by simp only [List.length_drop]; omega) (okl_drop hod j) (fun r h => hrd r (List.mem_of_mem_drop h)) hx
            have hs1 : sz l = sz (l.take (btw l)) + sz (l.drop (btw l)) := by rw [← sz_app, List.take_append_drop]
            have hs2 : sz (l.drop (btw l)) = sz ((l.drop (btw l)).take j) + sz ((l.drop (btw l)).drop j) := by rw [← sz_app, List.take_append_drop]
            refine ⟨?_, ?_⟩
            · show sz t.x + 1 + tot (q.map (·.1.x)) ≤ _
              rw [List.length_cons]
              omega
            · intro x hx'
              rcases List.mem_cons.1 hx' with rfl | hx'
              · exact ⟨⟨_, _, ht⟩, k1, k2⟩
              · exact i2 x hx'
/-- What is shown of a text's tokens is lexed as they were. -/
theorem lex_shown {s : ByteArray} {L : List Nat} (hL : Txt s L) (hs : s.size ≤ 300) {toks : List (Tok × Nat)} (h : lexL L 0 = .inl toks) :
    sz (jn (toks.map (·.1.x))) ≤ 16384 ∧ (∀ x ∈ toks, lexR (T x.1.x) = ([(x.1, 0)], 0, 0) ∧ sz x.1.x ≤ 16384) ∧ ∃ r, lexR (T (jn (toks.map (·.1.x)))) = (r, 0, 0) ∧ r.map (·.1) = toks.map (·.1) := by
  have hsz : s.size = sz L := by rw [← hL.txt, T_size]
  have hlen := lex_len' hL h
  obtain ⟨h1, h2⟩ := lex_tot L.length L 0 toks (Nat.le_refl _) hL.ok hL.rd h
  have h3 := jn_sz (toks.map (·.1.x))
  have one : ∀ (xs : List (List Nat)), ∀ x ∈ xs, sz x ≤ tot xs := by
    intro xs
    induction xs with
    | nil => intro x hx; cases hx
    | cons y r ih =>
      intro x hx
      rcases List.mem_cons.1 hx with rfl | hx
      · show sz x ≤ sz x + 1 + tot r; omega
      · have := ih x hx; show sz x ≤ sz y + 1 + tot r; omega
  refine ⟨by omega, ?_, ?_⟩
  · intro x hx
    obtain ⟨⟨d, n, hd⟩, k1, k2⟩ := h2 x hx
    have k3 := one (toks.map (·.1.x)) x.1.x (List.mem_map.2 ⟨x, hx, rfl⟩)
    refine ⟨?_, by omega⟩
    rw [lexR_T k1 k2 (by omega), tok_self hd 0]
  · have hmem : ∀ r ∈ jn (toks.map (·.1.x)), ok r ∧ rdb (r : Int) = true := by
      intro r hr
      rcases jn_mem _ r hr with rfl | ⟨x, hx, hrx⟩
      · exact ⟨.inl (by omega), by decide⟩
      · obtain ⟨y, hy, rfl⟩ := List.mem_map.1 hx
        obtain ⟨_, k1, k2⟩ := h2 y hy
        exact ⟨k1 r hrx, k2 r hrx⟩
    obtain ⟨r, k1, k2⟩ := lex_jn (toks.map (·.1)) 0 (fun t ht => by
      obtain ⟨y, hy, rfl⟩ := List.mem_map.1 ht
      exact (h2 y hy).1)
    rw [List.map_map] at k1
    refine ⟨r, ?_, k2⟩
    rw [lexR_T (fun r hr => (hmem r hr).1) (fun r hr => (hmem r hr).2) (by omega)]
    have e : jn (toks.map (·.1.x)) = jn (toks.map ((·.x) ∘ (·.1))) := rfl
    rw [e, k1]
end Go.Proofs.YteennkekpblccaaGreatDoor
