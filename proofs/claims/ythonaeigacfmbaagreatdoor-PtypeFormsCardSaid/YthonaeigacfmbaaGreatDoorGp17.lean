/-
  Plain: where a type ends, or is refused, hangs on the tokens up to there alone; no place is behind the list's end.
-/
import Derived.Test.YthonaeigacfmbaaGreatDoorGp16
namespace Go.Proofs.YthonaeigacfmbaaGreatDoor
section
variable {nk lg : ByteArray → Bool}
def pl {α : Type} : Rs α → Nat
  | .inl (_, j) => j
  | .inr (p, _) => p
def BadOk {α : Type} (N : Nat) (R : Rs α) : Prop := ∀ p e, R = .inr (p, e) → e = 6 ∨ (e = 9 ∧ p < N)
structure St {α : Type} (N : Nat) (R R' : Rs α) : Prop where
  le : pl R ≤ N
  same : pl R < N → R' = R
  more : N ≤ pl R → N ≤ pl R'
  bad : BadOk N R
theorem St.at {α : Type} {N i : Nat} (h : i ≤ N) : St (α := α) N (.inr (i, 6)) (.inr (i, 6)) := ⟨h, fun _ => rfl, fun h => h, fun p e he => by injection he with he; injection he with h1 h2; exact .inl h2.symm⟩
theorem St.yes {α : Type} {N i : Nat} (a : α) (h : i ≤ N) : St N (.inl (a, i)) (.inl (a, i)) := ⟨h, fun _ => rfl, fun h => h, fun p e he => by cases he⟩
theorem St.err {α β : Type} {N : Nat} {p q : Nat × Int} (h : St (α := α) N (.inr p) (.inr q)) : St (α := β) N (.inr p) (.inr q) :=
  ⟨h.le, fun hp => by have := h.same hp; injection this with this; rw [this], h.more, fun p' e he => h.bad p' e (by injection he with he; rw [he])⟩
theorem St.end {α : Type} {N : Nat} {R R' : Rs α} (h1 : pl R = N) (h2 : N ≤ pl R') (h3 : BadOk N R) : St N R R' := ⟨by omega, fun h => by omega, fun _ => h2, h3⟩
theorem bad_yes {α : Type} {N : Nat} (r : α × Nat) : BadOk (α := α) N (.inl r) := fun p e h => by cases h
theorem bad_6 {α : Type} {N i : Nat} : BadOk (α := α) N (.inr (i, 6)) := fun p e he => by injection he with he; injection he with h1 h2; exact .inl h2.symm
theorem bad_err {α β : Type} {N : Nat} {p : Nat × Int} (h : BadOk (α := α) N (.inr p)) : BadOk (α := β) N (.inr p) := fun p' e he => h p' e (by injection he with he; rw [he])
theorem key_app {l m : List Tk} {i : Nat} {x : ByteArray} (h : i < l.length) : key (l ++ m) i x = key l i x := by
  unfold key
  rw [List.getElem?_append_left h]
theorem key_end {l : List Tk} {i : Nat} {x : ByteArray} (h : l.length ≤ i) : key l i x = false := by
  unfold key
  rw [List.getElem?_eq_none h]
theorem nam_app {p : ByteArray → Bool} {l m : List Tk} {i : Nat} (h : i < l.length) : nam p (l ++ m) i = nam p l i := by
  unfold nam
  rw [List.getElem?_append_left h]
theorem nam_end {p : ByteArray → Bool} {l : List Tk} {i : Nat} (h : l.length ≤ i) : nam p l i = none := by
  unfold nam
  rw [List.getElem?_eq_none h]
theorem ahead_pl {α : Type} {i : Nat} {R : Rs α} (h : Ahead i R) : i ≤ pl R := by
  cases R with
  | inl r => exact Nat.le_of_lt h
  | inr r => exact h
theorem typS_pl {m : ByteArray} {k : Int} {l : List Tk} {r : Rs Tr} {T : Nat → Rs Tr} (hT : ∀ j, j ≤ pl (T j)) : pl r ≤ pl (typS m k l r T) := by
  unfold typS
  cases r with
  | inr e => exact Nat.le_refl _
  | inl r =>
    obtain ⟨a, j⟩ := r
    simp only
    split
    · have := hT (j + 1)
      cases h : T (j + 1) with
      | inr e => rw [h] at this; have this : j + 1 ≤ e.1 := this; show j ≤ e.1; omega
      | inl q => rw [h] at this; have this : j + 1 ≤ q.2 := this; show j ≤ q.2; omega
    · exact Nat.le_refl _
theorem typS_st {m : ByteArray} {k : Int} {l x : List Tk} {r r' : Rs Tr} {T T' : Nat → Rs Tr} (hr : St l.length r r') (hT : ∀ j, j ≤ l.length → St l.length (T j) (T' j)) (hT' : ∀ j, j ≤ pl (T' j)) :
    St l.length (typS m k l r T) (typS m k (l ++ x) r' T') := by
  by_cases hlt : pl r < l.length
  · rw [hr.same hlt]
    cases r with
    | inr e => exact ⟨hr.le, fun _ => rfl, fun h => h, bad_err hr.bad⟩
    | inl r =>
      obtain ⟨a, j⟩ := r
      have hlt : j < l.length := hlt
      unfold typS
      simp only [key_app hlt]
      split
      · have h := hT (j + 1) hlt
        cases h1 : T (j + 1) with
        | inr e =>
          rw [h1] at h
          cases h2 : T' (j + 1) with
          | inr e' => rw [h2] at h; exact h.err
          | inl q =>
            rw [h2] at h
            refine ⟨h.le, fun hp => ?_, h.more, bad_err h.bad⟩
            have := h.same hp
            cases this
        | inl q =>
          rw [h1] at h
          cases h2 : T' (j + 1) with
          | inr e' =>
            rw [h2] at h
            refine ⟨h.le, fun hp => ?_, h.more, bad_yes _⟩
            have := h.same hp
            cases this
          | inl q' =>
            rw [h2] at h
            refine ⟨h.le, fun hp => ?_, h.more, bad_yes _⟩
            have := h.same hp
            injection this with this
            rw [this]
      · exact St.yes a (by omega)
  · have he : pl r = l.length := by have := hr.le; omega
    have h2 : l.length ≤ pl r' := hr.more (by omega)
    have h3 : l.length ≤ pl (typS m k (l ++ x) r' T') := Nat.le_trans h2 (typS_pl hT')
    cases r with
    | inr e => exact St.end he h3 (bad_err hr.bad)
    | inl r =>
      obtain ⟨a, j⟩ := r
      have he : j = l.length := he
      have : typS m k l (.inl (a, j)) T = .inl (a, j) := by
        unfold typS
        simp only
        rw [key_end (by omega)]
        rfl
      rw [this]
      exact St.end he h3 (bad_yes _)
theorem atomS_pl {l : List Tk} {i : Nat} {T : Nat → Rs Tr} {C : Nat → Fr → Rs Fr} (hT : ∀ j, j ≤ pl (T j)) (hC : ∀ j a, j ≤ pl (C j a)) : i ≤ pl (atomS nk lg l i T C) := by
  have h1 := hT (i + 1)
  have h2 := hC (i + 3) .nil
  unfold atomS
  split
  · exact Nat.le_succ i
  · split
    · exact Nat.le_succ i
    · split
      · exact Nat.le_succ i
      · split
        · exact Nat.le_succ i
        · split
          · cases h : T (i + 1) with
            | inr e => rw [h] at h1; have h1 : i + 1 ≤ e.1 := h1; show i ≤ e.1; omega
            | inl r =>
              rw [h] at h1
              have h1 : i + 1 ≤ r.2 := h1
              simp only
              split
              · show i ≤ r.2 + 1; omega
              · show i ≤ r.2; omega
          · split
            · split
              · exact Nat.le_succ i
              · split
                · cases h : C (i + 3) .nil with
                  | inr e => rw [h] at h2; have h2 : i + 3 ≤ e.1 := h2; show i ≤ e.1; omega
                  | inl r =>
                    rw [h] at h2
                    have h2 : i + 3 ≤ r.2 := h2
                    simp only
                    split
                    · show i ≤ r.2 + 1; omega
                    · show i ≤ r.2; omega
                · show i ≤ i + 2; omega
            · exact Nat.le_refl i
def shutS {α : Type} (l : List Tk) (x : ByteArray) (g : α → Tr) (R : Rs α) : Rs Tr := match R with
  | .inr e => .inr e
  | .inl (t, j) => if key l j x then .inl (g t, j + 1) else .inr (j, 6)
theorem shutS_pl {α : Type} {l : List Tk} {x : ByteArray} {g : α → Tr} {R : Rs α} : pl R ≤ pl (shutS l x g R) := by
  unfold shutS
  cases R with
  | inr e => exact Nat.le_refl _
  | inl r =>
    simp only
    split
    · exact Nat.le_succ _
    · exact Nat.le_refl _
theorem shutS_st {α : Type} {l m : List Tk} {x : ByteArray} {g : α → Tr} {R R' : Rs α} (h : St l.length R R') : St l.length (shutS l x g R) (shutS (l ++ m) x g R') := by
  by_cases hlt : pl R < l.length
  · rw [h.same hlt]
    cases R with
    | inr e => exact ⟨h.le, fun _ => rfl, fun h => h, bad_err h.bad⟩
    | inl r =>
      obtain ⟨a, j⟩ := r
      have hlt : j < l.length := hlt
      unfold shutS
      simp only [key_app hlt]
      split
      · exact St.yes _ hlt
      · exact St.at (by omega)
  · have he : pl R = l.length := by have := h.le; omega
    have h3 : l.length ≤ pl (shutS (l ++ m) x g R') := Nat.le_trans (h.more (by omega)) shutS_pl
    cases R with
    | inr e => exact St.end he h3 (bad_err h.bad)
    | inl r =>
      obtain ⟨a, j⟩ := r
      have he : j = l.length := he
      have : shutS l x g (.inl (a, j)) = .inr (j, 6) := by
        unfold shutS
        simp only
        rw [key_end (by omega)]
        rfl
      rw [this]
      exact St.end he h3 bad_6
theorem atomS_st {l x : List Tk} {i : Nat} {T T' : Nat → Rs Tr} {C C' : Nat → Fr → Rs Fr} (hi : i ≤ l.length) (hT : ∀ j, j ≤ l.length → St l.length (T j) (T' j)) (hC : ∀ j a, j ≤ l.length → St l.length (C j a) (C' j a)) (hT' : ∀ j, j ≤ pl (T' j)) (hC' : ∀ j a, j ≤ pl (C' j a)) :
    St l.length (atomS nk lg l i T C) (atomS nk lg (l ++ x) i T' C') := by
  by_cases hlt : i < l.length
  · unfold atomS
    rw [nam_app hlt, key_app hlt, key_app hlt, key_app hlt, key_app hlt, key_app hlt]
    split
    · exact St.yes _ hlt
    · split
      · exact St.yes _ hlt
      · split
        · exact St.yes _ hlt
        · split
          · exact St.yes _ hlt
          · split
            · have h := shutS_st (m := x) (x := kShut) (g := fun t => t) (hT (i + 1) hlt)
              revert h
              cases T (i + 1) <;> cases T' (i + 1) <;> exact fun h => h
            · split
              · by_cases h1 : i + 1 < l.length
                · rw [nam_app h1]
                  split
                  · exact St.at hlt
                  · rename_i s hs
                    by_cases h2 : i + 2 < l.length
                    · rw [key_app h2]
                      split
                      · have h := shutS_st (m := x) (x := kRight) (g := fun c => nd 7 s c) (hC (i + 3) .nil h2)
                        revert h
                        cases C (i + 3) .nil <;> cases C' (i + 3) .nil <;> exact fun h => h
                      · exact St.at (by omega)
                    · rw [key_end (i := i + 2) (by omega)]
                      refine St.end (by show i + 2 = _; omega) ?_ bad_6
                      split
                      · have h := Nat.le_trans (hC' (i + 3) .nil) (shutS_pl (l := l ++ x) (x := kRight) (g := fun c => nd 7 s c))
                        have h3 : l.length ≤ i + 3 := by omega
                        revert h
                        cases C' (i + 3) .nil <;> exact fun h => Nat.le_trans h3 h
                      · show _ ≤ i + 2; omega
                · rw [nam_end (i := i + 1) (by omega)]
                  refine St.end (by show i + 1 = _; omega) ?_ bad_6
                  split
                  · show _ ≤ i + 1; omega
                  · rename_i s hs
                    split
                    · have h := Nat.le_trans (hC' (i + 3) .nil) (shutS_pl (l := l ++ x) (x := kRight) (g := fun c => nd 7 s c))
                      have h3 : l.length ≤ i + 3 := by omega
                      revert h
                      cases C' (i + 3) .nil <;> exact fun h => Nat.le_trans h3 h
                    · show _ ≤ i + 2; omega
              · exact St.at hi
  · have he : i = l.length := by omega
    have h0 : atomS nk lg l i T C = .inr (i, 6) := by
      unfold atomS
      rw [nam_end (by omega)]
      simp only
      rw [key_end (by omega), key_end (by omega), key_end (by omega), key_end (by omega), key_end (by omega)]
      rfl
    rw [h0]
    exact St.end he (by rw [← he]; exact atomS_pl hT' hC') bad_6
theorem consS_pl {l : List Tk} {i : Nat} {acc : Fr} {T : Nat → Rs Tr} {C : Nat → Fr → Rs Fr} (hT : ∀ j, j ≤ pl (T j)) (hC : ∀ j a, j ≤ pl (C j a)) : i ≤ pl (consS nk l i acc T C) := by
  have h1 := hT (i + 2)
  unfold consS
  split
  · exact Nat.le_refl _
  · split
    · exact Nat.le_refl _
    · split
      · cases h : T (i + 2) with
        | inr e => rw [h] at h1; have h1 : i + 2 ≤ e.1 := h1; show i ≤ e.1; omega
        | inl r =>
          rw [h] at h1
          have h1 : i + 2 ≤ r.2 := h1
          simp only
          split
          · have := hC (r.2 + 1) (acc.app (fr1 (nd 8 ‹ByteArray› (fr1 r.1)))); omega
          · show i ≤ r.2; omega
      · exact Nat.le_succ _
def barS (l : List Tk) (g : Tr → Fr) (R : Rs Tr) (C : Nat → Fr → Rs Fr) : Rs Fr := match R with
  | .inr e => .inr e
  | .inl (t, j) => if key l j kBar then C (j + 1) (g t) else .inl (g t, j)
theorem barS_pl {l : List Tk} {g : Tr → Fr} {R : Rs Tr} {C : Nat → Fr → Rs Fr} (hC : ∀ j a, j ≤ pl (C j a)) : pl R ≤ pl (barS l g R C) := by
  unfold barS
  cases R with
  | inr e => exact Nat.le_refl _
  | inl r =>
    simp only
    split
    · have := hC (r.2 + 1) (g r.1)
      show r.2 ≤ _
      omega
    · exact Nat.le_refl _
theorem barS_st {l m : List Tk} {g : Tr → Fr} {R R' : Rs Tr} {C C' : Nat → Fr → Rs Fr} (h : St l.length R R') (hC : ∀ j a, j ≤ l.length → St l.length (C j a) (C' j a)) (hC' : ∀ j a, j ≤ pl (C' j a)) : St l.length (barS l g R C) (barS (l ++ m) g R' C') := by
  by_cases hlt : pl R < l.length
  · rw [h.same hlt]
    cases R with
    | inr e => exact ⟨h.le, fun _ => rfl, fun h => h, bad_err h.bad⟩
    | inl r =>
      obtain ⟨a, j⟩ := r
      have hlt : j < l.length := hlt
      unfold barS
      simp only [key_app hlt]
      split
      · exact hC _ _ hlt
      · exact St.yes _ (by omega)
  · have he : pl R = l.length := by have := h.le; omega
    have h3 : l.length ≤ pl (barS (l ++ m) g R' C') := Nat.le_trans (h.more (by omega)) (barS_pl hC')
    cases R with
    | inr e => exact St.end he h3 (bad_err h.bad)
    | inl r =>
      obtain ⟨a, j⟩ := r
      have he : j = l.length := he
      have : barS l g (.inl (a, j)) C = .inl (g a, j) := by
        unfold barS
        simp only
        rw [key_end (by omega)]
        rfl
      rw [this]
      exact St.end he h3 (bad_yes _)
theorem consS_st {l x : List Tk} {i : Nat} {acc : Fr} {T T' : Nat → Rs Tr} {C C' : Nat → Fr → Rs Fr} (hi : i ≤ l.length) (hT : ∀ j, j ≤ l.length → St l.length (T j) (T' j)) (hC : ∀ j a, j ≤ l.length → St l.length (C j a) (C' j a)) (hT' : ∀ j, j ≤ pl (T' j)) (hC' : ∀ j a, j ≤ pl (C' j a)) :
    St l.length (consS nk l i acc T C) (consS nk (l ++ x) i acc T' C') := by
  by_cases hlt : i < l.length
  · unfold consS
    rw [nam_app hlt]
    split
    · exact St.at hi
    · rename_i s hs
      split
      · refine ⟨hi, fun _ => rfl, fun h => h, fun p e he => ?_⟩
        injection he with he
        injection he with h1 h2
        exact .inr ⟨h2.symm, by omega⟩
      · by_cases h1 : i + 1 < l.length
        · rw [key_app h1]
          split
          · exact barS_st (g := fun t => acc.app (fr1 (nd 8 s (fr1 t)))) (hT (i + 2) h1) hC hC'
          · exact St.at hlt
        · rw [key_end (i := i + 1) (by omega)]
          refine St.end (by show i + 1 = _; omega) ?_ bad_6
          split
          · refine Nat.le_trans ?_ (barS_pl (g := fun t => acc.app (fr1 (nd 8 s (fr1 t)))) hC')
            have := hT' (i + 2)
            omega
          · show _ ≤ i + 1; omega
  · have he : i = l.length := by omega
    have h0 : consS nk l i acc T C = .inr (i, 6) := by
      unfold consS
      rw [nam_end (by omega)]
    rw [h0]
    exact St.end he (by rw [← he]; exact consS_pl hT' hC') bad_6
theorem st_all (l x : List Tk) : ∀ (n : Nat), (∀ i, i ≤ l.length → St l.length (typF nk lg n l i) (typF nk lg n (l ++ x) i)) ∧ (∀ i, i ≤ l.length → St l.length (prodF nk lg n l i) (prodF nk lg n (l ++ x) i)) ∧
    (∀ i, i ≤ l.length → St l.length (atomF nk lg n l i) (atomF nk lg n (l ++ x) i)) ∧ (∀ i acc, i ≤ l.length → St l.length (consF nk lg n l i acc) (consF nk lg n (l ++ x) i acc))
  | 0 => ⟨fun i h => by rw [typF, typF]; exact St.at h, fun i h => by rw [prodF, prodF]; exact St.at h, fun i h => by rw [atomF, atomF]; exact St.at h, fun i _ h => by rw [consF, consF]; exact St.at h⟩
  | n + 1 => by
    obtain ⟨hT, hP, hA, hC⟩ := st_all l x n
    obtain ⟨aT, aP, aA, aC⟩ := ahead_all (nk := nk) (lg := lg) (l ++ x) n
    refine ⟨fun i hi => ?_, fun i hi => ?_, fun i hi => ?_, fun i acc hi => ?_⟩
    · rw [typF_s, typF_s]
      exact typS_st (hP i hi) hT fun j => ahead_pl (aT j)
    · rw [prodF_s, prodF_s]
      exact typS_st (hA i hi) hP fun j => ahead_pl (aP j)
    · rw [atomF_s, atomF_s]
      exact atomS_st hi hT (fun j a h => hC j a h) (fun j => ahead_pl (aT j)) fun j a => ahead_pl (aC j a)
    · rw [consF_s, consF_s]
      exact consS_st hi hT (fun j a h => hC j a h) (fun j => ahead_pl (aT j)) fun j a => ahead_pl (aC j a)
theorem typL_st (l x : List Tk) (i : Nat) (hi : i ≤ l.length) : St l.length (typL nk lg l i) (typL nk lg (l ++ x) i) := by
  have h := (st_all (nk := nk) (lg := lg) l x (4 * l.length + 8 + 4 * x.length)).1 i hi
  rw [typF_more (by omega) (4 * x.length)] at h
  have e : 4 * l.length + 8 + 4 * x.length = 4 * (l ++ x).length + 8 := by rw [List.length_append]; omega
  rw [e] at h
  exact h
end
end Go.Proofs.YthonaeigacfmbaaGreatDoor
namespace Go.Proofs.YthonaeigacfmbaaGreatDoor
section
variable {nk lg : ByteArray → Bool}
theorem is_leaf (k : Int) (h : k = 1 ∨ k = 2 ∨ k = 3) : isT nk lg (nd k nob .nil) 1 = true := by
  rcases h with rfl | rfl | rfl
  · exact isX_row.2 ⟨⟨1, 1, [], [], 0, 0, []⟩, by simp [RWS], fitR_is.2 ⟨rfl, rfl, rfl, rfl, Int.le_refl 0, Int.le_refl 0, rfl⟩⟩
  · exact isX_row.2 ⟨⟨1, 2, [], [], 0, 0, []⟩, by simp [RWS], fitR_is.2 ⟨rfl, rfl, rfl, rfl, Int.le_refl 0, Int.le_refl 0, rfl⟩⟩
  · exact isX_row.2 ⟨⟨1, 3, [], [], 0, 0, []⟩, by simp [RWS], fitR_is.2 ⟨rfl, rfl, rfl, rfl, Int.le_refl 0, Int.le_refl 0, rfl⟩⟩
theorem is_name {s : ByteArray} (h : lg s = true) : isT nk lg (nd 4 s .nil) 1 = true :=
  isX_row.2 ⟨⟨1, 4, [108], [], 0, 0, []⟩, by simp [RWS], fitR_is.2 ⟨rfl, rfl, h, rfl, Int.le_refl 0, Int.le_refl 0, rfl⟩⟩
theorem is_two {k : Int} (h : k = 5 ∨ k = 6) {a b : Tr} (ha : isT nk lg a 1 = true) (hb : isT nk lg b 1 = true) : isT nk lg (nd k nob (fr2 a b)) 1 = true := by
  have hs : seqOk (infF nk lg (fr2 a b)) [116, 116] = true := by
    show ((isT nk lg a 1) && ((isT nk lg b 1) && true)) = true
    rw [ha, hb]
    rfl
  rcases h with rfl | rfl
  · exact isX_row.2 ⟨⟨1, 5, [], [], 0, 0, [116, 116]⟩, by simp [RWS], fitR_is.2 ⟨rfl, rfl, rfl, rfl, Int.le_refl 0, Int.le_refl 0, hs⟩⟩
  · exact isX_row.2 ⟨⟨1, 6, [], [], 0, 0, [116, 116]⟩, by simp [RWS], fitR_is.2 ⟨rfl, rfl, rfl, rfl, Int.le_refl 0, Int.le_refl 0, hs⟩⟩
theorem is_con {s : ByteArray} (h : nk s = true) {t : Tr} (ht : isT nk lg t 1 = true) : isT nk lg (nd 8 s (fr1 t)) 8 = true := by
  have hs : seqOk (infF nk lg (fr1 t)) [116] = true := by
    show ((isT nk lg t 1) && true) = true
    rw [ht]
    rfl
  exact isX_row.2 ⟨⟨8, 8, [110], [], 0, 0, [116]⟩, by simp [RWS], fitR_is.2 ⟨rfl, rfl, h, rfl, Int.le_refl 0, Int.le_refl 0, hs⟩⟩
theorem apart_snoc (j : Inf) : ∀ l : List Inf, apartA (l ++ [j]) = (apartA l && l.all fun i => decide (i.a ≠ j.a))
  | [] => rfl
  | i :: t => by
    show ((t ++ [j]).all (fun x => decide (i.a ≠ x.a)) && apartA (t ++ [j])) = ((t.all (fun x => decide (i.a ≠ x.a)) && apartA t) && (decide (i.a ≠ j.a) && t.all fun x => decide (x.a ≠ j.a)))
    rw [apart_snoc j t, List.all_append, List.all_cons, List.all_nil]
    cases t.all (fun x => decide (i.a ≠ x.a)) <;> cases decide (i.a ≠ j.a) <;> cases apartA t <;> cases (t.all fun x => decide (x.a ≠ j.a)) <;> rfl
theorem hasN_all : ∀ (f : Fr) (s : ByteArray), hasN f s = false → ((infF nk lg f).all fun i => decide (i.a ≠ s)) = true
  | .nil, _, _ => rfl
  | .cons x k r, s, h => by
    unfold hasN at h
    rw [Bool.or_eq_false_iff] at h
    show (decide (x.a ≠ s) && (infF nk lg r).all fun i => decide (i.a ≠ s)) = true
    rw [hasN_all r s h.2, Bool.and_true, decide_eq_true_eq]
    exact of_decide_eq_false h.1
def ConOk (nk lg : ByteArray → Bool) (f : Fr) : Prop := ((infF nk lg f).all fun i => i.is 8) = true ∧ apartA (infF nk lg f) = true
theorem ConOk.nil : ConOk nk lg .nil := ⟨rfl, rfl⟩
theorem ConOk.more {f : Fr} (h : ConOk nk lg f) {s : ByteArray} (hs : nk s = true) (hn : hasN f s = false) {t : Tr} (ht : isT nk lg t 1 = true) : ConOk nk lg (f.app (fr1 (nd 8 s (fr1 t)))) := by
  have e : infF nk lg (f.app (fr1 (nd 8 s (fr1 t)))) = infF nk lg f ++ [infT nk lg (nd 8 s (fr1 t))] := infF_app f _
  unfold ConOk
  rw [e]
  refine ⟨?_, ?_⟩
  · rw [List.all_append, h.1]
    show (true && (isT nk lg (nd 8 s (fr1 t)) 8 && true)) = true
    rw [is_con hs ht]
    rfl
  · rw [apart_snoc, h.2]
    exact hasN_all f s hn
theorem is_mu {s : ByteArray} (h : nk s = true) {c : Fr} (hc : ConOk nk lg c) (h0 : 0 < c.len) : isT nk lg (nd 7 s c) 1 = true := by
  have hs : seqOk (infF nk lg c) [67] = true := by
    have hl := infF_len (nk := nk) (lg := lg) c
    cases hq : infF nk lg c with
    | nil => rw [hq] at hl; simp at hl; omega
    | cons i t =>
      rw [← hq]
      have e : seqOk (infF nk lg c) [67] = (!(infF nk lg c).isEmpty && ((infF nk lg c).all fun i => i.is 8) && apartA (infF nk lg c)) := by cases infF nk lg c <;> rfl
      rw [e, hc.1, hc.2, hq]
      rfl
  exact isX_row.2 ⟨⟨1, 7, [110], [], 0, 0, [67]⟩, by simp [RWS], fitR_is.2 ⟨rfl, rfl, h, rfl, Int.le_refl 0, Int.le_refl 0, hs⟩⟩
theorem nam_ok {p : ByteArray → Bool} {l : List Tk} {i : Nat} {s : ByteArray} (h : nam p l i = some s) : p s = true := by
  unfold nam at h
  split at h
  · split at h
    · rename_i hp
      injection h with h
      rw [Bool.and_eq_true] at hp
      rw [← h]
      exact hp.2
    · cases h
  · cases h
def FormT (nk lg : ByteArray → Bool) (i : Nat) (R : Rs Tr) : Prop := ∀ t j, R = .inl (t, j) → isT nk lg t 1 = true ∧ szT t + i ≤ j
def FormC (nk lg : ByteArray → Bool) (i : Nat) (acc : Fr) (R : Rs Fr) : Prop := ∀ c j, R = .inl (c, j) → ConOk nk lg c ∧ c.sz + i ≤ acc.sz + j ∧ 0 < c.len
theorem typS_form {m : ByteArray} {k : Int} (hk : k = 5 ∨ k = 6) {l : List Tk} {i : Nat} {r : Rs Tr} {T : Nat → Rs Tr} (hr : FormT nk lg i r) (hT : ∀ j, FormT nk lg j (T j)) : FormT nk lg i (typS m k l r T) := by
  intro t j h
  unfold typS at h
  cases r with
  | inr e => cases h
  | inl r =>
    obtain ⟨a, q⟩ := r
    obtain ⟨h1, h2⟩ := hr a q rfl
    simp only at h
    split at h
    · cases h' : T (q + 1) with
      | inr e => rw [h'] at h; cases h
      | inl r =>
        obtain ⟨b, p⟩ := r
        rw [h'] at h
        injection h with h
        injection h with h3 h4
        obtain ⟨h5, h6⟩ := hT (q + 1) b p h'
        subst h3; subst h4
        refine ⟨is_two hk h1 h5, ?_⟩
        have e : szT (nd k nob (fr2 a b)) = 1 + (szT a + szT b) := by unfold szT; simp only [nd, fr2, fr1, Fr.sz]; omega
        omega
    · injection h with h
      injection h with h3 h4
      subst h3; subst h4
      exact ⟨h1, h2⟩
theorem atomS_form {l : List Tk} {i : Nat} {T : Nat → Rs Tr} {C : Nat → Fr → Rs Fr} (hT : ∀ j, FormT nk lg j (T j)) (hC : ∀ j, FormC nk lg j .nil (C j .nil)) : FormT nk lg i (atomS nk lg l i T C) := by
  intro t j h
  have one : ∀ k s, szT (nd k s .nil) = 1 := fun _ _ => rfl
  unfold atomS at h
  split at h
  · rename_i s hs
    injection h with h
    injection h with h1 h2
    subst h1; subst h2
    exact ⟨is_name (nam_ok hs), by rw [one]; omega⟩
  · split at h
    · injection h with h
      injection h with h1 h2
      subst h1; subst h2
      exact ⟨is_leaf 1 (by omega), by rw [one]; omega⟩
    · split at h
      · injection h with h
        injection h with h1 h2
        subst h1; subst h2
        exact ⟨is_leaf 2 (by omega), by rw [one]; omega⟩
      · split at h
        · injection h with h
          injection h with h1 h2
          subst h1; subst h2
          exact ⟨is_leaf 3 (by omega), by rw [one]; omega⟩
        · split at h
          · cases h' : T (i + 1) with
            | inr e => rw [h'] at h; cases h
            | inl r =>
              obtain ⟨a, q⟩ := r
              rw [h'] at h
              simp only at h
              obtain ⟨h5, h6⟩ := hT (i + 1) a q h'
              split at h
              · injection h with h
                injection h with h1 h2
                subst h1; subst h2
                exact ⟨h5, by omega⟩
              · cases h
          · split at h
            · split at h
              · cases h
              · rename_i s hs
                split at h
                · cases h' : C (i + 3) .nil with
                  | inr e => rw [h'] at h; cases h
                  | inl r =>
                    obtain ⟨c, q⟩ := r
                    rw [h'] at h
                    simp only at h
                    obtain ⟨h5, h6, h7⟩ := hC (i + 3) c q h'
                    have h8 : Fr.nil.sz = 0 := rfl
                    split at h
                    · injection h with h
                      injection h with h1 h2
                      subst h1; subst h2
                      exact ⟨is_mu (nam_ok hs) h5 h7, by show 1 + c.sz + i ≤ q + 1; omega⟩
                    · cases h
                · cases h
            · cases h
theorem consS_form {l : List Tk} {i : Nat} {acc : Fr} {T : Nat → Rs Tr} {C : Nat → Fr → Rs Fr} (ha : ConOk nk lg acc) (hT : ∀ j, FormT nk lg j (T j)) (hC : ∀ j a, ConOk nk lg a → FormC nk lg j a (C j a)) : FormC nk lg i acc (consS nk l i acc T C) := by
  intro c j h
  unfold consS at h
  split at h
  · cases h
  · rename_i s hs
    split at h
    · cases h
    · rename_i hn
      split at h
      · cases h' : T (i + 2) with
        | inr e => rw [h'] at h; cases h
        | inl r =>
          obtain ⟨t, q⟩ := r
          rw [h'] at h
          simp only at h
          obtain ⟨h5, h6⟩ := hT (i + 2) t q h'
          have hk := ha.more (nam_ok hs) (Bool.eq_false_iff.2 hn) h5
          have hz : (acc.app (fr1 (nd 8 s (fr1 t)))).sz = acc.sz + (1 + szT t) := by rw [Fr.sz_app]; unfold szT; simp only [nd, fr1, Fr.sz]; omega
          split at h
          · obtain ⟨h7, h8, h9⟩ := hC (q + 1) _ hk c j h
            exact ⟨h7, by omega, h9⟩
          · injection h with h
            injection h with h1 h2
            subst h1; subst h2
            exact ⟨hk, by omega, by rw [Fr.len_app]; show 0 < acc.len + 1; omega⟩
      · cases h
theorem form_all (l : List Tk) : ∀ (n : Nat), (∀ i, FormT nk lg i (typF nk lg n l i)) ∧ (∀ i, FormT nk lg i (prodF nk lg n l i)) ∧ (∀ i, FormT nk lg i (atomF nk lg n l i)) ∧ (∀ i acc, ConOk nk lg acc → FormC nk lg i acc (consF nk lg n l i acc))
  | 0 => ⟨(fun i t j h => by rw [typF] at h; cases h), (fun i t j h => by rw [prodF] at h; cases h), (fun i t j h => by rw [atomF] at h; cases h), (fun i _ _ c j h => by rw [consF] at h; cases h)⟩
  | n + 1 => by
    obtain ⟨hT, hP, hA, hC⟩ := form_all l n
    refine ⟨fun i => ?_, fun i => ?_, fun i => ?_, fun i acc ha => ?_⟩
    · rw [typF_s]
      exact typS_form (.inl rfl) (hP i) hT
    · rw [prodF_s]
      exact typS_form (.inr rfl) (hA i) hP
    · rw [atomF_s]
      exact atomS_form hT fun j => hC j .nil ConOk.nil
    · rw [consF_s]
      exact consS_form ha hT hC
theorem typL_form {l : List Tk} {i j : Nat} {t : Tr} (h : typL nk lg l i = .inl (t, j)) : isT nk lg t 1 = true ∧ szT t + i ≤ j := (form_all l _).1 i t j h
end
end Go.Proofs.YthonaeigacfmbaaGreatDoor
