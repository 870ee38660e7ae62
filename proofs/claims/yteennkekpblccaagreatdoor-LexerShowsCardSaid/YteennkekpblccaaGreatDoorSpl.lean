/-
  Plain facts, without the program: a text cut at its dots.
-/
import Derived.Test.YteennkekpblccaaGreatDoorLexP
import Derived.Lib.CountLaws
import Derived.Lib.IndexBytes
import Derived.Lib.Split
namespace Go.Proofs.YteennkekpblccaaGreatDoor
open Go.Lib

theorem mem_en {r : Nat} (h : ok r) {b : UInt8} (hb : b ∈ en r) : (r < 128 ∧ b = UInt8.ofNat r) ∨ 128 ≤ b.toNat := by
  unfold ok at h
  rcases en_is h with ⟨h1, e⟩ | ⟨h1, h2, e⟩ | ⟨h1, h2, e⟩ | ⟨h1, e⟩
  · rw [e] at hb; simp only [List.mem_singleton] at hb; exact .inl ⟨h1, hb⟩
  all_goals
    rw [e] at hb
    simp only [List.mem_cons, List.not_mem_nil, or_false] at hb
    right
    rcases hb with rfl | rfl | rfl | rfl
    all_goals (rw [u8n _ (by omega)]; omega)
theorem mem_enc {l : List Nat} (ho : okl l) {c : Nat} (hc : c < 128) (h : UInt8.ofNat c ∈ enc l) : c ∈ l := by
  induction l with
  | nil => cases h
  | cons r t ih =>
    obtain ⟨h1, h2⟩ := okl_cons.1 ho
    have h' : UInt8.ofNat c ∈ en r ++ enc t := h
    rcases List.mem_append.1 h' with h3 | h3
    · rcases mem_en h1 h3 with ⟨h4, h5⟩ | h4
      · have := congrArg UInt8.toNat h5
        rw [u8n _ (by omega), u8n _ (by omega)] at this
        rw [this]
        simp
      · rw [u8n _ (by omega)] at h4
        omega
    · exact List.mem_cons_of_mem _ (ih h2 h3)
theorem ib_none {x : List UInt8} {c : UInt8} (h : c ∉ x) : indexByte x c = -1 := by
  induction x with
  | nil => rfl
  | cons b t ih =>
    simp only [List.mem_cons, not_or] at h
    unfold indexByte
    rw [if_neg (by simp; exact fun e => h.1 e.symm), ih h.2]
    rfl
theorem ib_at {x y : List UInt8} {c : UInt8} (h : c ∉ x) : indexByte (x ++ c :: y) c = (x.length : Int) := by
  induction x with
  | nil => simp [indexByte]
  | cons b t ih =>
    simp only [List.mem_cons, not_or] at h
    show indexByte (b :: (t ++ c :: y)) c = _
    unfold indexByte
    rw [if_neg (by simp; exact fun e => h.1 e.symm), ih h.2, if_neg (by simp)]
    simp
def D46 : ByteArray := ⟨#[46]⟩
theorem idx_none {l : List Nat} (ho : okl l) (h : 46 ∉ l) : indexB (T l) D46 = -1 := by
  show index (enc l) [46] = -1
  rw [index_one]
  exact ib_none fun hm => h (mem_enc (c := 46) ho (by omega) hm)
theorem idx_at {a r : List Nat} (ho : okl a) (h : 46 ∉ a) : indexB (T (a ++ 46 :: r)) D46 = ((sz a : Nat) : Int) := by
  show index (enc (a ++ 46 :: r)) [46] = _
  rw [index_one, enc_app]
  show indexByte (enc a ++ (en 46 ++ enc r)) 46 = _
  rw [(wd_ascii (r := 46) (by omega)).2]
  exact ib_at fun hm => h (mem_enc (c := 46) ho (by omega) hm)
theorem spl_none {l : List Nat} (h : 46 ∉ l) : spl l = [l] := by
  induction l with
  | nil => rfl
  | cons r t ih =>
    simp only [List.mem_cons, not_or] at h
    unfold spl
    rw [if_neg (fun e => h.1 e.symm), ih h.2]
theorem spl_ne {x : Nat} {t : List Nat} (h : x ≠ 46) : spl (x :: t) = (match spl t with | [] => [[x]] | a :: b => (x :: a) :: b) := by
  rw [spl, if_neg h]
  cases spl t <;> rfl
theorem spl_at {a r : List Nat} (h : 46 ∉ a) : spl (a ++ 46 :: r) = a :: spl r := by
  induction a with
  | nil => show spl (46 :: r) = _; simp [spl]
  | cons x t ih =>
    simp only [List.mem_cons, not_or] at h
    show spl (x :: (t ++ 46 :: r)) = _
    rw [spl_ne (fun e => h.1 e.symm), ih h.2]
theorem dot_or (l : List Nat) : 46 ∉ l ∨ ∃ a r, l = a ++ 46 :: r ∧ 46 ∉ a := by
  induction l with
  | nil => left; simp
  | cons x t ih =>
    by_cases hx : x = 46
    · right; exact ⟨[], t, by rw [hx]; rfl, by simp⟩
    · rcases ih with h | ⟨a, r, rfl, h⟩
      · left; simp; exact ⟨fun e => hx e.symm, h⟩
      · right; exact ⟨x :: a, r, rfl, by simp; exact ⟨fun e => hx e.symm, h⟩⟩
theorem split_T : ∀ (n : Nat) (l : List Nat), l.length ≤ n → okl l → splitB D46 0 (countB (T l) D46) (T l) = (spl l).map T ∧ countB (T l) D46 + 1 = (spl l).length
  | n, l, hn, ho => by
    rcases dot_or l with h | ⟨a, r, rfl, h⟩
    · rw [countB_miss _ _ (idx_none ho h), spl_none h]
      exact ⟨rfl, rfl⟩
    · obtain ⟨h1, h2⟩ := okl_app.1 ho
      obtain ⟨h2, h3⟩ := okl_cons.1 h2
      cases n with
      | zero => simp at hn
      | succ n =>
        have hl : r.length ≤ n := by simp at hn; omega
        have ih := split_T n r hl h3
        have e1 : (T (a ++ 46 :: r)).extract (sz a + D46.size) (T (a ++ 46 :: r)).size = T r := by
          have := T_suf (a ++ [46]) r
          rw [List.append_assoc] at this
          rw [T_size]
          have e2 : sz (a ++ [46]) = sz a + D46.size := by rw [sz_app, sz_cons, (wd_ascii (r := 46) (by omega)).1]; rfl
          rw [e2] at this
          exact this
        have e3 : countB (T (a ++ 46 :: r)) D46 = countB (T r) D46 + 1 := by
          rw [countB_hit _ _ (sz a) (by decide) (idx_at h1 h), e1, Nat.add_comm]
        rw [e3, splitB_hit _ _ _ _ (sz a) (idx_at h1 h), e1, spl_at h, Nat.add_zero, T_pre, ih.1, ih.2]
        exact ⟨rfl, rfl⟩
theorem spl_mem : ∀ (l : List Nat), ∀ y ∈ spl l, ∀ r ∈ y, r ∈ l
  | [], y, hy, r, hr => by simp [spl] at hy; subst hy; cases hr
  | x :: t, y, hy, r, hr => by
    have ih := spl_mem t
    unfold spl at hy
    split at hy
    · rcases List.mem_cons.1 hy with rfl | hy
      · cases hr
      · exact List.mem_cons_of_mem _ (ih y hy r hr)
    · split at hy
      · simp at hy; subst hy; simp at hr; simp [hr]
      · rename_i a b e
        rcases List.mem_cons.1 hy with rfl | hy
        · rcases List.mem_cons.1 hr with rfl | hr
          · simp
          · exact List.mem_cons_of_mem _ (ih a (by rw [e]; simp) r hr)
        · exact List.mem_cons_of_mem _ (ih y (by rw [e]; simp [hy]) r hr)
end Go.Proofs.YteennkekpblccaaGreatDoor
