/-
  Plain facts, without the program: texts as runes, by places in the text. 'dc s p': the rune that begins at byte p and its width; (65533, 1): none begins there. 'rns s p': the runes from place p on; 'vls s p': all from there on is right UTF-8.
-/
import Derived.Lib.ValidLaws
import Derived.Lib.RuneCount
namespace Go.Proofs.YtagocfifagnpkaaDoor
open Go.Lib

abbrev dc (s : ByteArray) (p : Nat) : Nat × Nat := Utf8.decode s p
def bt (s : ByteArray) (p : Nat) : Nat := (s.get! p).toNat
theorem bt_lt (s : ByteArray) (p : Nat) : bt s p < 256 := (s.get! p).toNat_lt
theorem dc_N (s : ByteArray) (p : Nat) : dc s p = decodeN (s.size - p) (bt s p) (bt s (p + 1)) (bt s (p + 2)) (bt s (p + 3)) := decode_at s p
theorem bt_get (s : ByteArray) (p : Nat) (h : p < s.size) : ((s[p]'h).toNat) = bt s p := by
  unfold bt
  simp [ByteArray.get!, getElem!_pos, h]
  rfl

theorem dc_pos (s : ByteArray) (p : Nat) : 1 ≤ (dc s p).2 := width_pos s p
theorem dc_rune (s : ByteArray) (p : Nat) : (dc s p).1 ≤ 1114111 := rune_le s p
theorem dc_le (s : ByteArray) (p : Nat) (h : p < s.size) : p + (dc s p).2 ≤ s.size := by
  rw [dc_N]
  rcases decodeN_shape (s.size - p) (bt s p) (bt s (p + 1)) (bt s (p + 2)) (bt s (p + 3)) with ⟨c, e⟩ | ⟨c1, c2, c3, cv, e⟩ | ⟨c1, c2, c3, c4, cv, cs, e⟩ | ⟨c1, c2, c3, c4, c5, cv, cw, e⟩ | e
  all_goals (rw [e]; dsimp only; omega)

def bad (s : ByteArray) (p : Nat) : Bool := decide (dc s p = (65533, 1))
theorem bad_iff (s : ByteArray) (p : Nat) : bad s p = true ↔ dc s p = (65533, 1) := by simp [bad]
theorem bad_false (s : ByteArray) (p : Nat) : bad s p = false ↔ dc s p ≠ (65533, 1) := by simp [bad]

/-- What the document's own decoder tells: (0, 0) where none begins. -/
def nx (s : ByteArray) (p : Nat) : Nat × Nat := if bad s p then (0, 0) else dc s p
theorem nx_bad {s : ByteArray} {p : Nat} (h : bad s p = true) : nx s p = (0, 0) := by simp [nx, h]
theorem nx_good {s : ByteArray} {p : Nat} (h : bad s p = false) : nx s p = dc s p := by simp [nx, h]
theorem nx_zero (s : ByteArray) (p : Nat) : (nx s p).2 = 0 ↔ bad s p = true := by
  have := dc_pos s p
  unfold nx
  split
  · simp_all
  · simp_all; omega

/-! ### the document's decoder, lead byte by lead byte -/
/-- The rune's number, as it grows by continuation bytes. -/
def acc (s : ByteArray) (p r : Nat) : Nat → Nat
  | 0 => r
  | k + 1 => 64 * acc s p r k + (bt s (p + (k + 1)) - 128)
def contAt (s : ByteArray) (p k : Nat) : Prop := 128 ≤ bt s (p + k) ∧ bt s (p + k) ≤ 191

/-- lead byte: how many bytes, what is taken off, the least number. -/
def Lead (b n off least : Nat) : Prop :=
  (n = 2 ∧ off = 192 ∧ least = 128 ∧ 194 ≤ b ∧ b < 224) ∨ (n = 3 ∧ off = 224 ∧ least = 2048 ∧ 224 ≤ b ∧ b < 240) ∨ (n = 4 ∧ off = 240 ∧ least = 65536 ∧ 240 ≤ b ∧ b < 245)

set_option maxHeartbeats 4000000 in
theorem lead_short {s : ByteArray} {p n off least : Nat} (h : Lead (bt s p) n off least) (hs : s.size - p < n) : bad s p = true := by
  rw [bad_iff, dc_N]
  have h1 := bt_lt s (p + 1)
  rcases h with ⟨rfl, rfl, rfl, hl, hu⟩ | ⟨rfl, rfl, rfl, hl, hu⟩ | ⟨rfl, rfl, rfl, hl, hu⟩
  all_goals
    unfold decodeN
    repeat' split
    all_goals first | rfl | (exfalso; omega)

set_option maxHeartbeats 4000000 in
theorem lead_cont {s : ByteArray} {p n off least k : Nat} (h : Lead (bt s p) n off least) (hk : 1 ≤ k) (hkn : k < n) (hc : ¬ contAt s p k) : bad s p = true := by
  rw [bad_iff, dc_N]
  have h1 := bt_lt s (p + 1)
  have h2 := bt_lt s (p + 2)
  have h3 := bt_lt s (p + 3)
  unfold contAt at hc
  have hk' : k = 1 ∨ k = 2 ∨ k = 3 := by rcases h with h | h | h <;> omega
  rcases hk' with rfl | rfl | rfl
  all_goals
    rcases h with ⟨rfl, rfl, rfl, hl, hu⟩ | ⟨rfl, rfl, rfl, hl, hu⟩ | ⟨rfl, rfl, rfl, hl, hu⟩
    all_goals
      unfold decodeN
      repeat' split
      all_goals first | rfl | (exfalso; omega)

theorem acc_lt (s : ByteArray) (p r k : Nat) (hr : r < 64) (hk : k ≤ 3) : acc s p r k < 20000000 := by
  have h1 := bt_lt s (p + 1)
  have h2 := bt_lt s (p + 2)
  have h3 := bt_lt s (p + 3)
  have e0 : acc s p r 0 = r := rfl
  have e1 : acc s p r 1 = 64 * acc s p r 0 + (bt s (p + 1) - 128) := rfl
  have e2 : acc s p r 2 = 64 * acc s p r 1 + (bt s (p + 2) - 128) := rfl
  have e3 : acc s p r 3 = 64 * acc s p r 2 + (bt s (p + 3) - 128) := rfl
  have hk' : k = 0 ∨ k = 1 ∨ k = 2 ∨ k = 3 := by omega
  rcases hk' with rfl | rfl | rfl | rfl <;> omega

set_option maxHeartbeats 8000000 in
set_option maxRecDepth 100000 in
theorem lead_two {n b0 b1 b2 b3 : Nat} (hl : 194 ≤ b0) (hu : b0 < 224) (hs : 2 ≤ n) (c1 : 128 ≤ b1 ∧ b1 ≤ 191) : decodeN n b0 b1 b2 b3 = (64 * (b0 - 192) + (b1 - 128), 2) := by
  unfold decodeN
  repeat' split
  all_goals first | (exfalso; omega) | (apply Prod.ext <;> simp only <;> omega)
set_option maxHeartbeats 8000000 in
set_option maxRecDepth 100000 in
theorem lead_three {n b0 b1 b2 b3 r : Nat} (hl : 224 ≤ b0) (hu : b0 < 240) (hs : 3 ≤ n) (c1 : 128 ≤ b1 ∧ b1 ≤ 191) (c2 : 128 ≤ b2 ∧ b2 ≤ 191) (hr : r = 64 * (64 * (b0 - 224) + (b1 - 128)) + (b2 - 128)) :
    (r < 2048 ∨ 1114111 < r ∨ (55296 ≤ r ∧ r ≤ 57343) → decodeN n b0 b1 b2 b3 = (65533, 1)) ∧ (¬ (r < 2048 ∨ 1114111 < r ∨ (55296 ≤ r ∧ r ≤ 57343)) → decodeN n b0 b1 b2 b3 = (r, 3)) := by
  constructor
  · intro hb
    unfold decodeN
    repeat' split
    all_goals first | rfl | (exfalso; omega)
  · intro hb
    unfold decodeN
    repeat' split
    all_goals first | (exfalso; omega) | (apply Prod.ext <;> simp only <;> omega)
set_option maxHeartbeats 8000000 in
set_option maxRecDepth 100000 in
theorem lead_four {n b0 b1 b2 b3 r : Nat} (hl : 240 ≤ b0) (hu : b0 < 245) (hs : 4 ≤ n) (c1 : 128 ≤ b1 ∧ b1 ≤ 191) (c2 : 128 ≤ b2 ∧ b2 ≤ 191) (c3 : 128 ≤ b3 ∧ b3 ≤ 191)
    (hr : r = 64 * (64 * (64 * (b0 - 240) + (b1 - 128)) + (b2 - 128)) + (b3 - 128)) :
    (r < 65536 ∨ 1114111 < r ∨ (55296 ≤ r ∧ r ≤ 57343) → decodeN n b0 b1 b2 b3 = (65533, 1)) ∧ (¬ (r < 65536 ∨ 1114111 < r ∨ (55296 ≤ r ∧ r ≤ 57343)) → decodeN n b0 b1 b2 b3 = (r, 4)) := by
  constructor
  · intro hb
    unfold decodeN
    repeat' split
    all_goals first | rfl | (exfalso; omega)
  · intro hb
    unfold decodeN
    repeat' split
    all_goals first | (exfalso; omega) | (apply Prod.ext <;> simp only <;> omega)

theorem pair_ne {a b : Nat} (h : b ≠ 1) : (a, b) ≠ ((65533 : Nat), (1 : Nat)) := fun hx => h (congrArg Prod.snd hx)
theorem lead_whole {s : ByteArray} {p n off least r : Nat} (h : Lead (bt s p) n off least) (hs : n ≤ s.size - p) (hc : ∀ k, 1 ≤ k → k < n → contAt s p k) (hr : r = acc s p (bt s p - off) (n - 1)) :
    (r < least ∨ 1114111 < r ∨ (55296 ≤ r ∧ r ≤ 57343) → bad s p = true) ∧ (¬ (r < least ∨ 1114111 < r ∨ (55296 ≤ r ∧ r ≤ 57343)) → bad s p = false ∧ dc s p = (r, n)) := by
  rw [bad_iff, bad_false, dc_N]
  rcases h with ⟨rfl, rfl, rfl, hl, hu⟩ | ⟨rfl, rfl, rfl, hl, hu⟩ | ⟨rfl, rfl, rfl, hl, hu⟩
  · have c1 : contAt s p 1 := hc 1 (by omega) (by omega)
    have hr' : r = 64 * (bt s p - 192) + (bt s (p + 1) - 128) := hr
    unfold contAt at c1
    rw [lead_two hl hu hs c1, ← hr']
    exact ⟨fun hb => by exfalso; omega, fun _ => ⟨pair_ne (by omega), rfl⟩⟩
  · have c1 : contAt s p 1 := hc 1 (by omega) (by omega)
    have c2 : contAt s p 2 := hc 2 (by omega) (by omega)
    have hr' : r = 64 * (64 * (bt s p - 224) + (bt s (p + 1) - 128)) + (bt s (p + 2) - 128) := hr
    have k := lead_three (b3 := bt s (p + 3)) hl hu hs c1 c2 hr'
    exact ⟨k.1, fun hb => by rw [k.2 hb]; exact ⟨pair_ne (by omega), rfl⟩⟩
  · have c1 : contAt s p 1 := hc 1 (by omega) (by omega)
    have c2 : contAt s p 2 := hc 2 (by omega) (by omega)
    have c3 : contAt s p 3 := hc 3 (by omega) (by omega)
    have hr' : r = 64 * (64 * (64 * (bt s p - 240) + (bt s (p + 1) - 128)) + (bt s (p + 2) - 128)) + (bt s (p + 3) - 128) := hr
    have k := lead_four hl hu hs c1 c2 c3 hr'
    exact ⟨k.1, fun hb => by rw [k.2 hb]; exact ⟨pair_ne (by omega), rfl⟩⟩

theorem lead_none {s : ByteArray} {p : Nat} (h1 : 128 ≤ bt s p) (h2 : bt s p < 194 ∨ 245 ≤ bt s p) : bad s p = true := by
  rw [bad_iff, dc_N]
  have h3 := bt_lt s p
  exact decodeN_bad _ _ _ _ _ (by omega)
theorem lead_ascii {s : ByteArray} {p : Nat} (h : bt s p < 128) : bad s p = false ∧ dc s p = (bt s p, 1) := by
  have e : dc s p = (bt s p, 1) := by rw [dc_N]; unfold decodeN; rw [if_pos h]
  exact ⟨by rw [bad_false, e]; intro hx; injection hx with h1 h2; omega, e⟩

/-! ### the runes from a place on -/
def rnsF (s : ByteArray) : Nat → Nat → List Nat
  | 0, _ => []
  | f + 1, p => if p < s.size then (dc s p).1 :: rnsF s f (p + (dc s p).2) else []
def vlsF (s : ByteArray) : Nat → Nat → Bool
  | 0, _ => true
  | f + 1, p => if p < s.size then (if bad s p then false else vlsF s f (p + (dc s p).2)) else true
theorem rnsF_fuel (s : ByteArray) : ∀ f g p, s.size ≤ p + f → s.size ≤ p + g → rnsF s f p = rnsF s g p
  | 0, 0, _, _, _ => rfl
  | 0, g + 1, p, h, _ => by simp [rnsF, show ¬ p < s.size by omega]
  | f + 1, 0, p, _, h => by simp [rnsF, show ¬ p < s.size by omega]
  | f + 1, g + 1, p, h1, h2 => by
    have hw := dc_pos s p
    simp only [rnsF]
    rw [rnsF_fuel s f g _ (by omega) (by omega)]
theorem vlsF_fuel (s : ByteArray) : ∀ f g p, s.size ≤ p + f → s.size ≤ p + g → vlsF s f p = vlsF s g p
  | 0, 0, _, _, _ => rfl
  | 0, g + 1, p, h, _ => by simp [vlsF, show ¬ p < s.size by omega]
  | f + 1, 0, p, _, h => by simp [vlsF, show ¬ p < s.size by omega]
  | f + 1, g + 1, p, h1, h2 => by
    have hw := dc_pos s p
    simp only [vlsF]
    rw [vlsF_fuel s f g _ (by omega) (by omega)]
def rns (s : ByteArray) (p : Nat) : List Nat := rnsF s s.size p
def vls (s : ByteArray) (p : Nat) : Bool := vlsF s s.size p
theorem rns_end {s : ByteArray} {p : Nat} (h : ¬ p < s.size) : rns s p = [] := by
  unfold rns; cases s.size <;> simp_all [rnsF]
theorem vls_end {s : ByteArray} {p : Nat} (h : ¬ p < s.size) : vls s p = true := by
  unfold vls; cases s.size <;> simp_all [vlsF]
theorem rns_step {s : ByteArray} {p : Nat} (h : p < s.size) : rns s p = (dc s p).1 :: rns s (p + (dc s p).2) := by
  have hw := dc_pos s p
  unfold rns
  rw [rnsF_fuel s s.size (s.size + 1) p (by omega) (by omega)]
  simp only [rnsF, if_pos h]
theorem vls_step {s : ByteArray} {p : Nat} (h : p < s.size) : vls s p = if bad s p then false else vls s (p + (dc s p).2) := by
  have hw := dc_pos s p
  unfold vls
  rw [vlsF_fuel s s.size (s.size + 1) p (by omega) (by omega)]
  simp only [vlsF, if_pos h]
theorem vls_bad {s : ByteArray} {p : Nat} (h : p < s.size) (hb : bad s p = true) : vls s p = false := by rw [vls_step h, if_pos hb]
theorem vls_good {s : ByteArray} {p : Nat} (h : p < s.size) (hb : bad s p = false) : vls s p = vls s (p + (dc s p).2) := by rw [vls_step h, hb]; simp
theorem vls_head {s : ByteArray} {p : Nat} (h : p < s.size) (hv : vls s p = true) : bad s p = false ∧ vls s (p + (dc s p).2) = true := by
  rw [vls_step h] at hv
  split at hv
  · cases hv
  · exact ⟨by simp_all, hv⟩

/-- An induction along a text's runes. -/
theorem along (s : ByteArray) (Q : Nat → Prop) (hend : ∀ p, s.size ≤ p → Q p) (hstep : ∀ p, p < s.size → Q (p + (dc s p).2) → Q p) : ∀ p, Q p := by
  have key : ∀ f p, s.size ≤ p + f → Q p := by
    intro f
    induction f with
    | zero => intro p h; exact hend p (by omega)
    | succ f ih =>
      intro p h
      by_cases hp : p < s.size
      · have hw := dc_pos s p
        exact hstep p hp (ih _ (by omega))
      · exact hend p (by omega)
  intro p
  exact key s.size p (by omega)

theorem rns_len_le (s : ByteArray) : ∀ p, (rns s p).length ≤ s.size - p := by
  refine along s _ ?_ ?_
  · intro p h; rw [rns_end (by omega)]; simp
  · intro p h ih
    have hw := dc_pos s p
    rw [rns_step h, List.length_cons]
    omega
theorem rns_le (s : ByteArray) : ∀ p, ∀ r ∈ rns s p, r ≤ 1114111 := by
  refine along s _ ?_ ?_
  · intro p h; rw [rns_end (by omega)]; simp
  · intro p h ih
    rw [rns_step h]
    intro r hr
    rcases List.mem_cons.1 hr with rfl | hr
    · exact dc_rune s p
    · exact ih r hr

/-- The library's own words for these. -/
theorem validD_vls (s : ByteArray) : validD s.data.toList = vls s 0 := by
  have key : ∀ p, validD (s.data.toList.drop p) = vls s p := by
    refine along s _ ?_ ?_
    · intro p h
      rw [vls_end (by omega), List.drop_eq_nil_of_le (by simpa using h)]
      rfl
    · intro p h ih
      have hne : s.data.toList.drop p ≠ [] := by
        intro he
        have := congrArg List.length he
        simp at this
        have h' : s.size = s.data.size := rfl
        omega
      rw [validD_step _ hne, decodeL_drop, List.drop_drop, vls_step h]
      have e : ((Utf8.decode s p).1 = 65533 ∧ (Utf8.decode s p).2 = 1) ↔ bad s p = true := by
        rw [bad_iff]; exact ⟨fun ⟨a, b⟩ => Prod.ext a b, fun hx => by rw [show Utf8.decode s p = (65533, 1) from hx]; exact ⟨rfl, rfl⟩⟩
      simp only [e]
      rw [ih]
  exact key 0
theorem runeCount_rns (s : ByteArray) : runeCount s = (rns s 0).length := by
  have key : ∀ f p, runeCountFrom s f p = (rnsF s f p).length := by
    intro f
    induction f with
    | zero => intro p; rfl
    | succ f ih =>
      intro p
      simp only [runeCountFrom, rnsF]
      split
      · rw [ih, List.length_cons]; exact Nat.add_comm _ _
      · rfl
  exact key s.size 0

/-- The bytes of a rune that is told. -/
theorem dc_enc {s : ByteArray} {p : Nat} (h : p < s.size) (hb : bad s p = false) : encodeRune ((dc s p).1 : Int) = (s.data.toList.drop p).take (dc s p).2 := by
  have hne : s.data.toList.drop p ≠ [] := by
    intro he
    have := congrArg List.length he
    simp at this
    have h' : s.size = s.data.size := rfl
    omega
  have := encode_decode (s.data.toList.drop p) hne
  rw [decodeL_drop] at this
  refine this fun hx => ?_
  rw [bad_false] at hb
  exact hb (Prod.ext hx.1 hx.2)
theorem dc_runeLen {s : ByteArray} {p : Nat} (hb : bad s p = false) : runeLen ((dc s p).1 : Int) = ((dc s p).2 : Int) := by
  rw [bad_false, dc_N] at hb
  rw [dc_N]
  have k0 := bt_lt s p
  have k1 := bt_lt s (p + 1)
  have k2 := bt_lt s (p + 2)
  have k3 := bt_lt s (p + 3)
  unfold runeLen
  rcases decodeN_shape (s.size - p) (bt s p) (bt s (p + 1)) (bt s (p + 2)) (bt s (p + 3)) with ⟨c, e⟩ | ⟨c1, c2, c3, cv, e⟩ | ⟨c1, c2, c3, c4, cv, cs, e⟩ | ⟨c1, c2, c3, c4, c5, cv, cw, e⟩ | e
  all_goals (rw [e] at hb ⊢; dsimp only)
  all_goals (try (exact absurd rfl hb))
  all_goals (repeat' split)
  all_goals omega
end Go.Proofs.YtagocfifagnpkaaDoor
