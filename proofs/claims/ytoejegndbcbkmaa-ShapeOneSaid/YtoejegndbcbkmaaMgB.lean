/-
  Plain facts, without the program: texts as runes, by places in the text. 'dc s p': the rune that begins at byte p and its width; (65533, 1): none begins there. 'rns s p': the runes from place p on; 'vls s p': all from there on is right UTF-8.
-/
import Derived.Lib.CutLaws
import Derived.Lib.IndexBytes
import Derived.Lib.ItoaNum
import Derived.Lib.Join
import Derived.Lib.RuneCount
import Derived.Lib.ValidLaws
namespace Go.Proofs.Ytoejegndbcbkmaa.B
open Go.Lib

abbrev dc (s : ByteArray) (p : Nat) : Nat × Nat := Utf8.decode s p
def bt (s : ByteArray) (p : Nat) : Nat := (s.get! p).toNat
theorem bt_lt (s : ByteArray) (p : Nat) : bt s p < 256 := (s.get! p).toNat_lt
theorem dc_N (s : ByteArray) (p : Nat) : dc s p = decodeN (s.size - p) (bt s p) (bt s (p + 1)) (bt s (p + 2)) (bt s (p + 3)) := decode_at s p
theorem bt_get (s : ByteArray) (p : Nat) (h : p < s.size) : ((s[p]'h).toNat) = bt s p := by
  unfold bt
  simp [ByteArray.get!, getElem!_pos, h]
  rfl

theorem dc_pos (s : ByteArray) (p : Nat) : 1 ≤ (dc s p).2 := width_pos s p
theorem dc_rune (s : ByteArray) (p : Nat) : (dc s p).1 ≤ 1114111 := rune_le s p
theorem dc_le (s : ByteArray) (p : Nat) (h : p < s.size) : p + (dc s p).2 ≤ s.size := by
  rw [dc_N]
  rcases decodeN_shape (s.size - p) (bt s p) (bt s (p + 1)) (bt s (p + 2)) (bt s (p + 3)) with ⟨c, e⟩ | ⟨c1, c2, c3, cv, e⟩ | ⟨c1, c2, c3, c4, cv, cs, e⟩ | ⟨c1, c2, c3, c4, c5, cv, cw, e⟩ | e
  all_goals (rw [e]; dsimp only; omega)

def bad (s : ByteArray) (p : Nat) : Bool := decide (dc s p = (65533, 1))
theorem bad_iff (s : ByteArray) (p : Nat) : bad s p = true ↔ dc s p = (65533, 1) := by simp [bad]
theorem bad_false (s : ByteArray) (p : Nat) : bad s p = false ↔ dc s p ≠ (65533, 1) := by simp [bad]

/-- What the document's own decoder tells: (0, 0) where none begins. -/
def nx (s : ByteArray) (p : Nat) : Nat × Nat := if bad s p then (0, 0) else dc s p
theorem nx_bad {s : ByteArray} {p : Nat} (h : bad s p = true) : nx s p = (0, 0) := by simp [nx, h]
theorem nx_good {s : ByteArray} {p : Nat} (h : bad s p = false) : nx s p = dc s p := by simp [nx, h]
theorem nx_zero (s : ByteArray) (p : Nat) : (nx s p).2 = 0 ↔ bad s p = true := by
  have := dc_pos s p
  unfold nx
  split
  · simp_all
  · simp_all; omega

/-! ### the document's decoder, lead byte by lead byte -/
/-- The rune's number, as it grows by continuation bytes. -/
def acc (s : ByteArray) (p r : Nat) : Nat → Nat
  | 0 => r
  | k + 1 => 64 * acc s p r k + (bt s (p + (k + 1)) - 128)
def contAt (s : ByteArray) (p k : Nat) : Prop := 128 ≤ bt s (p + k) ∧ bt s (p + k) ≤ 191

/-- lead byte: how many bytes, what is taken off, the least number. -/
def Lead (b n off least : Nat) : Prop :=
  (n = 2 ∧ off = 192 ∧ least = 128 ∧ 194 ≤ b ∧ b < 224) ∨ (n = 3 ∧ off = 224 ∧ least = 2048 ∧ 224 ≤ b ∧ b < 240) ∨ (n = 4 ∧ off = 240 ∧ least = 65536 ∧ 240 ≤ b ∧ b < 245)

set_option maxHeartbeats 4000000 in
theorem lead_short {s : ByteArray} {p n off least : Nat} (h : Lead (bt s p) n off least) (hs : s.size - p < n) : bad s p = true := by
  rw [bad_iff, dc_N]
  have h1 := bt_lt s (p + 1)
  rcases h with ⟨rfl, rfl, rfl, hl, hu⟩ | ⟨rfl, rfl, rfl, hl, hu⟩ | ⟨rfl, rfl, rfl, hl, hu⟩
  all_goals
    unfold decodeN
    repeat' split
    all_goals first | rfl | (exfalso; omega)

set_option maxHeartbeats 4000000 in
theorem lead_cont {s : ByteArray} {p n off least k : Nat} (h : Lead (bt s p) n off least) (hk : 1 ≤ k) (hkn : k < n) (hc : ¬ contAt s p k) : bad s p = true := by
  rw [bad_iff, dc_N]
  have h1 := bt_lt s (p + 1)
  have h2 := bt_lt s (p + 2)
  have h3 := bt_lt s (p + 3)
  unfold contAt at hc
  have hk' : k = 1 ∨ k = 2 ∨ k = 3 := by rcases h with h | h | h <;> omega
  rcases hk' with rfl | rfl | rfl
  all_goals
    rcases h with ⟨rfl, rfl, rfl, hl, hu⟩ | ⟨rfl, rfl, rfl, hl, hu⟩ | ⟨rfl, rfl, rfl, hl, hu⟩
    all_goals
      unfold decodeN
      repeat' split
      all_goals first | rfl | (exfalso; omega)

theorem acc_lt (s : ByteArray) (p r k : Nat) (hr : r < 64) (hk : k ≤ 3) : acc s p r k < 20000000 := by
  have h1 := bt_lt s (p + 1)
  have h2 := bt_lt s (p + 2)
  have h3 := bt_lt s (p + 3)
  have e0 : acc s p r 0 = r := rfl
  have e1 : acc s p r 1 = 64 * acc s p r 0 + (bt s (p + 1) - 128) := rfl
  have e2 : acc s p r 2 = 64 * acc s p r 1 + (bt s (p + 2) - 128) := rfl
  have e3 : acc s p r 3 = 64 * acc s p r 2 + (bt s (p + 3) - 128) := rfl
  have hk' : k = 0 ∨ k = 1 ∨ k = 2 ∨ k = 3 := by omega
  rcases hk' with rfl | rfl | rfl | rfl <;> omega

set_option maxHeartbeats 8000000 in
set_option maxRecDepth 100000 in
theorem lead_two {n b0 b1 b2 b3 : Nat} (hl : 194 ≤ b0) (hu : b0 < 224) (hs : 2 ≤ n) (c1 : 128 ≤ b1 ∧ b1 ≤ 191) : decodeN n b0 b1 b2 b3 = (64 * (b0 - 192) + (b1 - 128), 2) := by
  unfold decodeN
  repeat' split
  all_goals first | (exfalso; omega) | (apply Prod.ext <;> simp only <;> omega)
set_option maxHeartbeats 8000000 in
set_option maxRecDepth 100000 in
theorem lead_three {n b0 b1 b2 b3 r : Nat} (hl : 224 ≤ b0) (hu : b0 < 240) (hs : 3 ≤ n) (c1 : 128 ≤ b1 ∧ b1 ≤ 191) (c2 : 128 ≤ b2 ∧ b2 ≤ 191) (hr : r = 64 * (64 * (b0 - 224) + (b1 - 128)) + (b2 - 128)) :
    (r < 2048 ∨ 1114111 < r ∨ (55296 ≤ r ∧ r ≤ 57343) → decodeN n b0 b1 b2 b3 = (65533, 1)) ∧ (¬ (r < 2048 ∨ 1114111 < r ∨ (55296 ≤ r ∧ r ≤ 57343)) → decodeN n b0 b1 b2 b3 = (r, 3)) := by
  constructor
  · intro hb
    unfold decodeN
    repeat' split
    all_goals first | rfl | (exfalso; omega)
  · intro hb
    unfold decodeN
    repeat' split
    all_goals first | (exfalso; omega) | (apply Prod.ext <;> simp only <;> omega)
set_option maxHeartbeats 8000000 in
set_option maxRecDepth 100000 in
theorem lead_four {n b0 b1 b2 b3 r : Nat} (hl : 240 ≤ b0) (hu : b0 < 245) (hs : 4 ≤ n) (c1 : 128 ≤ b1 ∧ b1 ≤ 191) (c2 : 128 ≤ b2 ∧ b2 ≤ 191) (c3 : 128 ≤ b3 ∧ b3 ≤ 191)
    (hr : r = 64 * (64 * (64 * (b0 - 240) + (b1 - 128)) + (b2 - 128)) + (b3 - 128)) :
    (r < 65536 ∨ 1114111 < r ∨ (55296 ≤ r ∧ r ≤ 57343) → decodeN n b0 b1 b2 b3 = (65533, 1)) ∧ (¬ (r < 65536 ∨ 1114111 < r ∨ (55296 ≤ r ∧ r ≤ 57343)) → decodeN n b0 b1 b2 b3 = (r, 4)) := by
  constructor
  · intro hb
    unfold decodeN
    repeat' split
    all_goals first | rfl | (exfalso; omega)
  · intro hb
    unfold decodeN
    repeat' split
    all_goals first | (exfalso; omega) | (apply Prod.ext <;> simp only <;> omega)

theorem pair_ne {a b : Nat} (h : b ≠ 1) : (a, b) ≠ ((65533 : Nat), (1 : Nat)) := fun hx => h (congrArg Prod.snd hx)
theorem lead_whole {s : ByteArray} {p n off least r : Nat} (h : Lead (bt s p) n off least) (hs : n ≤ s.size - p) (hc : ∀ k, 1 ≤ k → k < n → contAt s p k) (hr : r = acc s p (bt s p - off) (n - 1)) :
    (r < least ∨ 1114111 < r ∨ (55296 ≤ r ∧ r ≤ 57343) → bad s p = true) ∧ (¬ (r < least ∨ 1114111 < r ∨ (55296 ≤ r ∧ r ≤ 57343)) → bad s p = false ∧ dc s p = (r, n)) := by
  rw [bad_iff, bad_false, dc_N]
  rcases h with ⟨rfl, rfl, rfl, hl, hu⟩ | ⟨rfl, rfl, rfl, hl, hu⟩ | ⟨rfl, rfl, rfl, hl, hu⟩
  · have c1 : contAt s p 1 := hc 1 (by omega) (by omega)
    have hr' : r = 64 * (bt s p - 192) + (bt s (p + 1) - 128) := hr
    unfold contAt at c1
    rw [lead_two hl hu hs c1, ← hr']
    exact ⟨fun hb => by exfalso; omega, fun _ => ⟨pair_ne (by omega), rfl⟩⟩
  · have c1 : contAt s p 1 := hc 1 (by omega) (by omega)
    have c2 : contAt s p 2 := hc 2 (by omega) (by omega)
    have hr' : r = 64 * (64 * (bt s p - 224) + (bt s (p + 1) - 128)) + (bt s (p + 2) - 128) := hr
    have k := lead_three (b3 := bt s (p + 3)) hl hu hs c1 c2 hr'
    exact ⟨k.1, fun hb => by rw [k.2 hb]; exact ⟨pair_ne (by omega), rfl⟩⟩
  · have c1 : contAt s p 1 := hc 1 (by omega) (by omega)
    have c2 : contAt s p 2 := hc 2 (by omega) (by omega)
    have c3 : contAt s p 3 := hc 3 (by omega) (by omega)
    have hr' : r = 64 * (64 * (64 * (bt s p - 240) + (bt s (p + 1) - 128)) + (bt s (p + 2) - 128)) + (bt s (p + 3) - 128) := hr
    have k := lead_four hl hu hs c1 c2 c3 hr'
    exact ⟨k.1, fun hb => by rw [k.2 hb]; exact ⟨pair_ne (by omega), rfl⟩⟩

theorem lead_none {s : ByteArray} {p : Nat} (h1 : 128 ≤ bt s p) (h2 : bt s p < 194 ∨ 245 ≤ bt s p) : bad s p = true := by
  rw [bad_iff, dc_N]
  have h3 := bt_lt s p
  exact decodeN_bad _ _ _ _ _ (by omega)
theorem lead_ascii {s : ByteArray} {p : Nat} (h : bt s p < 128) : bad s p = false ∧ dc s p = (bt s p, 1) := by
  have e : dc s p = (bt s p, 1) := by rw [dc_N]; unfold decodeN; rw [if_pos h]
  exact ⟨by rw [bad_false, e]; intro hx; injection hx with h1 h2; omega, e⟩

/-! ### the runes from a place on -/
def rnsF (s : ByteArray) : Nat → Nat → List Nat
  | 0, _ => []
  | f + 1, p => if p < s.size then (dc s p).1 :: rnsF s f (p + (dc s p).2) else []
def vlsF (s : ByteArray) : Nat → Nat → Bool
  | 0, _ => true
  | f + 1, p => if p < s.size then (if bad s p then false else vlsF s f (p + (dc s p).2)) else true
theorem rnsF_fuel (s : ByteArray) : ∀ f g p, s.size ≤ p + f → s.size ≤ p + g → rnsF s f p = rnsF s g p
  | 0, 0, _, _, _ => rfl
  | 0, g + 1, p, h, _ => by simp [rnsF, show ¬ p < s.size by omega]
  | f + 1, 0, p, _, h => by simp [rnsF, show ¬ p < s.size by omega]
  | f + 1, g + 1, p, h1, h2 => by
    have hw := dc_pos s p
    simp only [rnsF]
    rw [rnsF_fuel s f g _ (by omega) (by omega)]
theorem vlsF_fuel (s : ByteArray) : ∀ f g p, s.size ≤ p + f → s.size ≤ p + g → vlsF s f p = vlsF s g p
  | 0, 0, _, _, _ => rfl
  | 0, g + 1, p, h, _ => by simp [vlsF, show ¬ p < s.size by omega]
  | f + 1, 0, p, _, h => by simp [vlsF, show ¬ p < s.size by omega]
  | f + 1, g + 1, p, h1, h2 => by
    have hw := dc_pos s p
    simp only [vlsF]
    rw [vlsF_fuel s f g _ (by omega) (by omega)]
def rns (s : ByteArray) (p : Nat) : List Nat := rnsF s s.size p
def vls (s : ByteArray) (p : Nat) : Bool := vlsF s s.size p
theorem rns_end {s : ByteArray} {p : Nat} (h : ¬ p < s.size) : rns s p = [] := by
  unfold rns; cases s.size <;> simp_all [rnsF]
theorem vls_end {s : ByteArray} {p : Nat} (h : ¬ p < s.size) : vls s p = true := by
  unfold vls; cases s.size <;> simp_all [vlsF]
theorem rns_step {s : ByteArray} {p : Nat} (h : p < s.size) : rns s p = (dc s p).1 :: rns s (p + (dc s p).2) := by
  have hw := dc_pos s p
  unfold rns
  rw [rnsF_fuel s s.size (s.size + 1) p (by omega) (by omega)]
  simp only [rnsF, if_pos h]
theorem vls_step {s : ByteArray} {p : Nat} (h : p < s.size) : vls s p = if bad s p then false else vls s (p + (dc s p).2) := by
  have hw := dc_pos s p
  unfold vls
  rw [vlsF_fuel s s.size (s.size + 1) p (by omega) (by omega)]
  simp only [vlsF, if_pos h]
theorem vls_bad {s : ByteArray} {p : Nat} (h : p < s.size) (hb : bad s p = true) : vls s p = false := by rw [vls_step h, if_pos hb]
theorem vls_good {s : ByteArray} {p : Nat} (h : p < s.size) (hb : bad s p = false) : vls s p = vls s (p + (dc s p).2) := by rw [vls_step h, hb]; simp
theorem vls_head {s : ByteArray} {p : Nat} (h : p < s.size) (hv : vls s p = true) : bad s p = false ∧ vls s (p + (dc s p).2) = true := by
  rw [vls_step h] at hv
  split at hv
  · cases hv
  · exact ⟨by simp_all, hv⟩

/-- An induction along a text's runes. -/
theorem along (s : ByteArray) (Q : Nat → Prop) (hend : ∀ p, s.size ≤ p → Q p) (hstep : ∀ p, p < s.size → Q (p + (dc s p).2) → Q p) : ∀ p, Q p := by
  have key : ∀ f p, s.size ≤ p + f → Q p := by
    intro f
    induction f with
    | zero => intro p h; exact hend p (by omega)
    | succ f ih =>
      intro p h
      by_cases hp : p < s.size
      · have hw := dc_pos s p
        exact hstep p hp (ih _ (by omega))
      · exact hend p (by omega)
  intro p
  exact key s.size p (by omega)

theorem rns_len_le (s : ByteArray) : ∀ p, (rns s p).length ≤ s.size - p := by
  refine along s _ ?_ ?_
  · intro p h; rw [rns_end (by omega)]; simp
  · intro p h ih
    have hw := dc_pos s p
    rw [rns_step h, List.length_cons]
    omega
theorem rns_le (s : ByteArray) : ∀ p, ∀ r ∈ rns s p, r ≤ 1114111 := by
  refine along s _ ?_ ?_
  · intro p h; rw [rns_end (by omega)]; simp
  · intro p h ih
    rw [rns_step h]
    intro r hr
    rcases List.mem_cons.1 hr with rfl | hr
    · exact dc_rune s p
    · exact ih r hr

/-- The library's own words for these. -/
theorem validD_vls (s : ByteArray) : validD s.data.toList = vls s 0 := by
  have key : ∀ p, validD (s.data.toList.drop p) = vls s p := by
    refine along s _ ?_ ?_
    · intro p h
      rw [vls_end (by omega), List.drop_eq_nil_of_le (by simpa using h)]
      rfl
    · intro p h ih
      have hne : s.data.toList.drop p ≠ [] := by
        intro he
        have := congrArg List.length he
        simp at this
        have h' : s.size = s.data.size := rfl
        omega
      rw [validD_step _ hne, decodeL_drop, List.drop_drop, vls_step h]
      have e : ((Utf8.decode s p).1 = 65533 ∧ (Utf8.decode s p).2 = 1) ↔ bad s p = true := by
        rw [bad_iff]; exact ⟨fun ⟨a, b⟩ => Prod.ext a b, fun hx => by rw [show Utf8.decode s p = (65533, 1) from hx]; exact ⟨rfl, rfl⟩⟩
      simp only [e]
      rw [ih]
  exact key 0
theorem runeCount_rns (s : ByteArray) : runeCount s = (rns s 0).length := by
  have key : ∀ f p, runeCountFrom s f p = (rnsF s f p).length := by
    intro f
    induction f with
    | zero => intro p; rfl
    | succ f ih =>
      intro p
      simp only [runeCountFrom, rnsF]
      split
      · rw [ih, List.length_cons]; exact Nat.add_comm _ _
      · rfl
  exact key s.size 0

/-- The bytes of a rune that is told. -/
theorem dc_enc {s : ByteArray} {p : Nat} (h : p < s.size) (hb : bad s p = false) : encodeRune ((dc s p).1 : Int) = (s.data.toList.drop p).take (dc s p).2 := by
  have hne : s.data.toList.drop p ≠ [] := by
    intro he
    have := congrArg List.length he
    simp at this
    have h' : s.size = s.data.size := rfl
    omega
  have := encode_decode (s.data.toList.drop p) hne
  rw [decodeL_drop] at this
  refine this fun hx => ?_
  rw [bad_false] at hb
  exact hb (Prod.ext hx.1 hx.2)
theorem dc_runeLen {s : ByteArray} {p : Nat} (hb : bad s p = false) : runeLen ((dc s p).1 : Int) = ((dc s p).2 : Int) := by
  rw [bad_false, dc_N] at hb
  rw [dc_N]
  have k0 := bt_lt s p
  have k1 := bt_lt s (p + 1)
  have k2 := bt_lt s (p + 2)
  have k3 := bt_lt s (p + 3)
  unfold runeLen
  rcases decodeN_shape (s.size - p) (bt s p) (bt s (p + 1)) (bt s (p + 2)) (bt s (p + 3)) with ⟨c, e⟩ | ⟨c1, c2, c3, cv, e⟩ | ⟨c1, c2, c3, c4, cv, cs, e⟩ | ⟨c1, c2, c3, c4, c5, cv, cw, e⟩ | e
  all_goals (rw [e] at hb ⊢; dsimp only)
  all_goals (try (exact absurd rfl hb))
  all_goals (repeat' split)
  all_goals omega
end Go.Proofs.Ytoejegndbcbkmaa.B
/-
  Plain facts, without the program: going along a text's runes with a state; what Check, Name, Cut and Place tell.
-/
namespace Go.Proofs.Ytoejegndbcbkmaa.B
open Go.Lib

def goF {σ α : Type} (s : ByteArray) (stop : σ → Nat → Option α) (next : σ → Nat → σ) (fin : σ → α) : Nat → σ → Nat → α
  | 0, st, _ => fin st
  | f + 1, st, p => if p < s.size then (match stop st p with | some a => a | none => goF s stop next fin f (next st p) (p + (dc s p).2)) else fin st
section
variable {σ α : Type} {s : ByteArray} {stop : σ → Nat → Option α} {next : σ → Nat → σ} {fin : σ → α}
theorem goF_end {f : Nat} {st : σ} {p : Nat} (h : ¬ p < s.size) : goF s stop next fin f st p = fin st := by
  cases f with
  | zero => rfl
  | succ f => simp only [goF, if_neg h]
theorem goF_fuel : ∀ (f g : Nat) (st : σ) (p : Nat), s.size ≤ p + f → s.size ≤ p + g → goF s stop next fin f st p = goF s stop next fin g st p
  | 0, g, st, p, h, _ => by rw [goF_end (by omega), goF_end (by omega)]
  | f + 1, 0, st, p, _, h => by rw [goF_end (by omega), goF_end (by omega)]
  | f + 1, g + 1, st, p, h1, h2 => by
    have hw := dc_pos s p
    simp only [goF]
    rw [goF_fuel f g (next st p) (p + (dc s p).2) (by omega) (by omega)]
end
/-- From place p on, in a state. -/
def along_ {σ α : Type} (s : ByteArray) (stop : σ → Nat → Option α) (next : σ → Nat → σ) (fin : σ → α) (st : σ) (p : Nat) : α := goF s stop next fin s.size st p
section
variable {σ α : Type} {s : ByteArray} {stop : σ → Nat → Option α} {next : σ → Nat → σ} {fin : σ → α}
theorem along_end {st : σ} {p : Nat} (h : ¬ p < s.size) : along_ s stop next fin st p = fin st := goF_end h
theorem along_stop {st : σ} {p : Nat} {a : α} (h : p < s.size) (e : stop st p = some a) : along_ s stop next fin st p = a := by
  unfold along_
  rw [goF_fuel s.size (s.size + 1) st p (by omega) (by omega)]
  simp only [goF, if_pos h, e]
theorem along_next {st : σ} {p : Nat} (h : p < s.size) (e : stop st p = none) : along_ s stop next fin st p = along_ s stop next fin (next st p) (p + (dc s p).2) := by
  have hw := dc_pos s p
  unfold along_
  rw [goF_fuel s.size (s.size + 1) st p (by omega) (by omega)]
  simp only [goF, if_pos h, e]
end

/-- A rune's class, as a number. -/
def cls (r : Int) : Int :=
  if (65 ≤ r ∧ r ≤ 90) ∨ (97 ≤ r ∧ r ≤ 122) ∨ r = 95 then 1
  else if 48 ≤ r ∧ r ≤ 57 then 2
  else if r = 32 ∨ r = 9 ∨ r = 10 then 3
  else if 128 ≤ r ∧ r ≤ 1114111 ∧ r ≠ 65533 ∧ (r < 55296 ∨ 57343 < r) then 1
  else 0
theorem cls_is (r c : Int) (h : ((65 ≤ r ∧ r ≤ 90) ∨ (97 ≤ r ∧ r ≤ 122) ∨ r = 95) ∧ c = 1 ∨ (48 ≤ r ∧ r ≤ 57) ∧ c = 2 ∨ (r = 32 ∨ r = 9 ∨ r = 10) ∧ c = 3 ∨
    (128 ≤ r ∧ r ≤ 1114111 ∧ r ≠ 65533 ∧ (r < 55296 ∨ 57343 < r)) ∧ c = 1 ∨
    (¬ ((65 ≤ r ∧ r ≤ 90) ∨ (97 ≤ r ∧ r ≤ 122) ∨ r = 95) ∧ ¬ (48 ≤ r ∧ r ≤ 57) ∧ ¬ (r = 32 ∨ r = 9 ∨ r = 10) ∧ ¬ (128 ≤ r ∧ r ≤ 1114111 ∧ r ≠ 65533 ∧ (r < 55296 ∨ 57343 < r))) ∧ c = 0) : cls r = c := by
  unfold cls
  repeat' split
  all_goals omega
theorem cls_three (r : Int) : cls r = 3 ↔ (r = 32 ∨ r = 9 ∨ r = 10) := by
  unfold cls
  repeat' split
  all_goals omega
theorem cls_bad : cls 65533 = 0 := by decide

/-- May a rune stand in a text that is read? -/
def rdb (r : Int) : Bool := !(decide (r = 65533 ∨ r = 127 ∨ (r < 32 ∧ r ≠ 9 ∧ r ≠ 10)))
theorem rdb_is (r : Int) (b : Bool) (h : b = true ↔ ¬ (r = 65533 ∨ r = 127 ∨ (r < 32 ∧ r ≠ 9 ∧ r ≠ 10))) : rdb r = b := by
  unfold rdb
  rw [Bool.eq_iff_iff, h, Bool.not_eq_true', decide_eq_false_iff_not]
theorem rdb_true {r : Int} (h : rdb r = true) : ¬ (r = 65533 ∨ r = 127 ∨ (r < 32 ∧ r ≠ 9 ∧ r ≠ 10)) := by
  unfold rdb at h
  rw [Bool.not_eq_true', decide_eq_false_iff_not] at h
  exact h
theorem rdb_false {r : Int} (h : rdb r = false) : r = 65533 ∨ r = 127 ∨ (r < 32 ∧ r ≠ 9 ∧ r ≠ 10) := by
  unfold rdb at h
  rw [Bool.not_eq_false', decide_eq_true_eq] at h
  exact h
theorem dc_bad1 {s : ByteArray} {p : Nat} (h : bad s p = true) : (dc s p).1 = 65533 := by
  rw [bad_iff] at h; rw [h]
theorem dc_bad2 {s : ByteArray} {p : Nat} (h : bad s p = true) : (dc s p).2 = 1 := by
  rw [bad_iff] at h; rw [h]

/-- Check, from place p on. -/
def ck (s : ByteArray) (p : Nat) : Int × Int := along_ s (fun (_ : Unit) p => if rdb (dc s p).1 then none else some ((p : Int), (4 : Int))) (fun u _ => u) (fun _ => (0, 0)) () p
theorem ck_end {s : ByteArray} {p : Nat} (h : ¬ p < s.size) : ck s p = (0, 0) := along_end h
theorem ck_stop {s : ByteArray} {p : Nat} (h : p < s.size) (e : rdb (dc s p).1 = false) : ck s p = ((p : Int), 4) := along_stop h (by simp [e])
theorem ck_next {s : ByteArray} {p : Nat} (h : p < s.size) (e : rdb (dc s p).1 = true) : ck s p = ck s (p + (dc s p).2) := along_next h (by simp [e])

/-- May a rune stand in a name, as its first one or further on? -/
def mst (r : Int) (first : Bool) : Bool := decide (cls r = 1) || (decide (cls r = 2 ∨ r = 39) && !first)
def nmF (s : ByteArray) (p : Nat) : Bool := along_ s (fun (_ : Unit) p => if mst (dc s p).1 (decide (p = 0)) then none else some false) (fun u _ => u) (fun _ => true) () p
theorem nm_end {s : ByteArray} {p : Nat} (h : ¬ p < s.size) : nmF s p = true := along_end h
theorem nm_stop {s : ByteArray} {p : Nat} (h : p < s.size) (e : mst (dc s p).1 (decide (p = 0)) = false) : nmF s p = false := along_stop h (by simp [e])
theorem nm_next {s : ByteArray} {p : Nat} (h : p < s.size) (e : mst (dc s p).1 (decide (p = 0)) = true) : nmF s p = nmF s (p + (dc s p).2) := along_next h (by simp [e])
def nmL : List Nat → Bool
  | [] => true
  | r :: t => mst r true && t.all fun (x : Nat) => mst x false
theorem nm_bad (s : ByteArray) : ∀ p, vls s p = false → nmF s p = false := by
  refine along s _ ?_ ?_
  · intro p h hv
    rw [vls_end (by omega)] at hv
    cases hv
  · intro p h ih hv
    cases hb : bad s p
    · rw [vls_good h hb] at hv
      cases hm : mst (dc s p).1 (decide (p = 0))
      · exact nm_stop h hm
      · rw [nm_next h hm]; exact ih hv
    · refine nm_stop h ?_
      rw [dc_bad1 hb]
      unfold mst
      rw [show ((65533 : Nat) : Int) = 65533 from rfl, cls_bad]
      rfl
theorem nm_rest (s : ByteArray) : ∀ p, 0 < p → nmF s p = (rns s p).all fun (x : Nat) => mst x false := by
  refine along s _ ?_ ?_
  · intro p h _
    rw [nm_end (by omega), rns_end (by omega)]
    rfl
  · intro p h ih hp
    have hw := dc_pos s p
    have e0 : decide (p = 0) = false := by simp; omega
    rw [rns_step h, List.all_cons, ← ih (by omega)]
    cases hm : mst (dc s p).1 false
    · rw [Bool.false_and]
      exact nm_stop h (by rw [e0]; exact hm)
    · rw [Bool.true_and]
      exact nm_next h (by rw [e0]; exact hm)
theorem nm_list (s : ByteArray) : nmF s 0 = nmL (rns s 0) := by
  by_cases h : 0 < s.size
  · have hw := dc_pos s 0
    rw [rns_step h]
    show _ = (mst (dc s 0).1 true && _)
    rw [← nm_rest s _ (by omega)]
    cases hm : mst (dc s 0).1 true
    · rw [Bool.false_and]
      exact nm_stop h (by simpa using hm)
    · rw [Bool.true_and]
      exact nm_next h (by simpa using hm)
  · rw [nm_end h, rns_end h]
    rfl
/-- Is a text a name? -/
def nm (s : ByteArray) : Bool := decide (1 ≤ s.size ∧ s.size ≤ 32) && nmF s 0
theorem nm_size {s : ByteArray} (h : ¬ (1 ≤ s.size ∧ s.size ≤ 32)) : nm s = false := by simp [nm, h]
theorem nm_of {s : ByteArray} (h : 1 ≤ s.size ∧ s.size ≤ 32) : nm s = nmF s 0 := by simp [nm, h]

/-- Where a text's first n runes end, from place p on. -/
def ct (s : ByteArray) (n : Int) (p : Nat) : Nat := along_ s (fun (n : Int) p => if n ≤ 0 then some p else none) (fun n _ => n - 1) (fun _ => s.size) n p
theorem ct_end {s : ByteArray} {n : Int} {p : Nat} (h : ¬ p < s.size) : ct s n p = s.size := along_end h
theorem ct_stop {s : ByteArray} {n : Int} {p : Nat} (h : p < s.size) (e : n ≤ 0) : ct s n p = p := along_stop h (by simp [e])
theorem ct_next {s : ByteArray} {n : Int} {p : Nat} (h : p < s.size) (e : 0 < n) : ct s n p = ct s (n - 1) (p + (dc s p).2) := along_next h (by simp; omega)
theorem ct_le (s : ByteArray) : ∀ p, p ≤ s.size → ∀ n, p ≤ ct s n p ∧ ct s n p ≤ s.size := by
  refine along s _ ?_ ?_
  · intro p h hp n
    rw [ct_end (by omega)]
    omega
  · intro p h ih hp n
    have hw := dc_pos s p
    have hl := dc_le s p h
    by_cases hn : n ≤ 0
    · rw [ct_stop h hn]; omega
    · rw [ct_next h (by omega)]
      have := ih hl (n - 1)
      omega

/-- Line and column of a byte, from place p on. -/
def bhd (st : Int × Int) (r : Nat) : Int × Int := if r = 10 then (st.1 + 1, 1) else (st.1, st.2 + 1)
def pl (s : ByteArray) (at_ : Int) (st : Int × Int) (p : Nat) : Int × Int :=
  along_ s (fun (st : Int × Int) p => if at_ < (p + (dc s p).2 : Nat) then some st else none) (fun st p => bhd st (dc s p).1) (fun st => st) st p
theorem pl_end {s : ByteArray} {at_ : Int} {st : Int × Int} {p : Nat} (h : ¬ p < s.size) : pl s at_ st p = st := along_end h
theorem pl_stop {s : ByteArray} {at_ : Int} {st : Int × Int} {p : Nat} (h : p < s.size) (e : at_ < (p + (dc s p).2 : Nat)) : pl s at_ st p = st := along_stop h (by simp only [if_pos e])
theorem pl_next {s : ByteArray} {at_ : Int} {st : Int × Int} {p : Nat} (h : p < s.size) (e : ¬ at_ < (p + (dc s p).2 : Nat)) : pl s at_ st p = pl s at_ (bhd st (dc s p).1) (p + (dc s p).2) := along_next h (by simp only [if_neg e])
end Go.Proofs.Ytoejegndbcbkmaa.B
/-
  Plain facts, without the program: a text's runes written again; a text cut; the place of each byte.
-/
namespace Go.Proofs.Ytoejegndbcbkmaa.B
open Go.Lib

theorem exAll (s : ByteArray) : s.extract 0 s.size = s := by
  apply ByteArray.ext
  apply Array.ext'
  rw [Lib.extract_data, Nat.sub_zero, List.drop_zero, Lib.size_eq]
  exact List.take_length

/-! ### written again -/
theorem dc_valid {s : ByteArray} {p : Nat} (hb : bad s p = false) : (dc s p).1 < 55296 ∨ (57343 < (dc s p).1 ∧ (dc s p).1 ≤ 1114111) := by
  rw [bad_false, dc_N] at hb
  rw [dc_N]
  have k0 := bt_lt s p
  have k1 := bt_lt s (p + 1)
  have k2 := bt_lt s (p + 2)
  have k3 := bt_lt s (p + 3)
  rcases decodeN_shape (s.size - p) (bt s p) (bt s (p + 1)) (bt s (p + 2)) (bt s (p + 3)) with ⟨c, e⟩ | ⟨c1, c2, c3, cv, e⟩ | ⟨c1, c2, c3, c4, cv, cs, e⟩ | ⟨c1, c2, c3, c4, c5, cv, cw, e⟩ | e
  all_goals (rw [e] at hb ⊢; dsimp only)
  all_goals (try (exact absurd rfl hb))
  all_goals omega
theorem byteZ (z : Int) (n : Nat) (h : z = (n : Int)) : z.toNat.toUInt8 = UInt8.ofNat n := by
  subst h
  rfl
theorem enc_eq (r : Nat) (hv : r < 55296 ∨ (57343 < r ∧ r ≤ 1114111)) : Utf8.encode (r : Int) = ⟨(encodeRune (r : Int)).toArray⟩ := by
  have v : Utf8.valid (r : Int) = true := by
    unfold Utf8.valid
    simp only [Bool.or_eq_true, Bool.and_eq_true, decide_eq_true_eq]
    omega
  unfold Utf8.encode
  simp only [v, if_true, Int.toNat_natCast]
  unfold encodeRune
  by_cases h1 : r < 128
  · rw [if_pos h1, encodeRuneZ_one (by omega) (by omega)]
    simp only [List.map_cons, List.map_nil]
    rw [byteZ _ r rfl]
  rw [if_neg h1]
  by_cases h2 : r < 2048
  · rw [if_pos h2, encodeRuneZ_two (by omega) (by omega)]
    simp only [List.map_cons, List.map_nil]
    rw [byteZ _ (192 + r / 64) (by omega), byteZ _ (128 + r % 64) (by omega)]
  rw [if_neg h2]
  by_cases h3 : r < 65536
  · rw [if_pos h3, encodeRuneZ_three (by omega)]
    simp only [List.map_cons, List.map_nil]
    rw [byteZ _ (224 + r / 4096) (by omega), byteZ _ (128 + r / 64 % 64) (by omega), byteZ _ (128 + r % 64) (by omega)]
  · rw [if_neg h3, encodeRuneZ_four (by omega) (by omega)]
    simp only [List.map_cons, List.map_nil]
    rw [byteZ _ (240 + r / 262144) (by omega), byteZ _ (128 + r / 4096 % 64) (by omega), byteZ _ (128 + r / 64 % 64) (by omega), byteZ _ (128 + r % 64) (by omega)]
/-- The text up to p, and the rune at p: the text up to behind it. -/
theorem ext_enc {s : ByteArray} {p : Nat} (h : p < s.size) (hb : bad s p = false) : s.extract 0 p ++ Utf8.encode ((dc s p).1 : Int) = s.extract 0 (p + (dc s p).2) := by
  rw [enc_eq _ (dc_valid hb)]
  apply ByteArray.ext
  apply Array.ext'
  rw [ByteArray.data_append, Array.toList_append, extract_data, extract_data, dc_enc h hb]
  simp only [Nat.sub_zero, List.drop_zero]
  rw [List.take_add]
theorem enc_size {s : ByteArray} {p : Nat} (h : p < s.size) (hb : bad s p = false) : (Utf8.encode ((dc s p).1 : Int)).size ≤ s.size := by
  rw [enc_eq _ (dc_valid hb), dc_enc h hb]
  show (Array.size _) ≤ _
  rw [List.size_toArray, List.length_take, List.length_drop, size_eq]
  omega
theorem ext_size (s : ByteArray) (a b : Nat) : (s.extract a b).size = min (b - a) (s.size - a) := by
  rw [size_eq, extract_data, List.length_take, List.length_drop, ← size_eq]

/-! ### cut -/
theorem get_out (s : ByteArray) (p : Nat) (h : ¬ p < s.size) : bt s p = 0 := by
  unfold bt
  simp [ByteArray.get!, getElem!_neg, h]
  rfl
theorem bt_list (s : ByteArray) (p : Nat) : bt s p = (s.data.toList.getD p 0).toNat := by
  by_cases h : p < s.size
  · rw [← bt_get s p h]
    have h' : p < s.data.toList.length := by rw [← size_eq]; exact h
    rw [List.getD_eq_getElem?_getD, List.getElem?_eq_getElem h']
    rfl
  · rw [get_out s p h, List.getD_eq_getElem?_getD, List.getElem?_eq_none (by rw [← size_eq]; omega)]
    rfl
theorem bt_pre (s : ByteArray) (c q : Nat) : bt (s.extract 0 c) q = if q < c then bt s q else 0 := by
  rw [bt_list, bt_list, extract_data]
  simp only [Nat.sub_zero, List.drop_zero, List.getD_eq_getElem?_getD, List.getElem?_take]
  split <;> rfl
theorem bt_suf (s : ByteArray) (c q : Nat) : bt (s.extract c s.size) q = bt s (c + q) := by
  rw [bt_list, bt_list, extract_data]
  simp only [List.getD_eq_getElem?_getD, List.getElem?_take, List.getElem?_drop]
  by_cases h : q < s.size - c
  · rw [if_pos h]
  · rw [if_neg h, List.getElem?_eq_none (by rw [← size_eq]; omega)]
theorem dc_suf (s : ByteArray) (c q : Nat) : dc (s.extract c s.size) q = dc s (c + q) := by
  rw [dc_N, dc_N, bt_suf, bt_suf, bt_suf, bt_suf, ext_size]
  rw [show min (s.size - c) (s.size - c) - q = s.size - (c + q) by omega, show c + (q + 1) = c + q + 1 by omega, show c + (q + 2) = c + q + 2 by omega, show c + (q + 3) = c + q + 3 by omega]
set_option maxHeartbeats 2000000 in
theorem dc_pre {s : ByteArray} {c p : Nat} (hb : bad s p = false) (h : p + (dc s p).2 ≤ c) (hc : c ≤ s.size) : dc (s.extract 0 c) p = dc s p := by
  rw [bad_false, dc_N] at hb
  rw [dc_N] at h ⊢
  rw [dc_N s p, bt_pre, bt_pre, bt_pre, bt_pre, ext_size, show min (c - 0) (s.size - 0) - p = c - p by omega]
  rcases decodeN_shape (s.size - p) (bt s p) (bt s (p + 1)) (bt s (p + 2)) (bt s (p + 3)) with ⟨c0, e⟩ | ⟨c1, c2, c3, cv, e⟩ | ⟨c1, c2, c3, c4, cv, cs, e⟩ | ⟨c1, c2, c3, c4, c5, cv, cw, e⟩ | e
  · rw [e] at h ⊢
    dsimp only at h
    rw [if_pos (by omega)]
    unfold decodeN
    rw [if_pos c0]
  · rw [e] at h ⊢
    dsimp only at h
    rw [if_pos (by omega), if_pos (by omega)]
    unfold decodeN
    rw [if_neg (by omega), if_pos ⟨c1, by omega, c3⟩, if_pos cv]
  · rw [e] at h ⊢
    dsimp only at h
    rw [if_pos (by omega), if_pos (by omega), if_pos (by omega)]
    unfold decodeN
    rw [if_neg (by omega), if_neg (by omega), if_pos ⟨c1, ⟨by omega, c3⟩, by omega, c4⟩, if_pos ⟨cv, by omega⟩]
  · rw [e] at h ⊢
    dsimp only at h
    rw [if_pos (by omega), if_pos (by omega), if_pos (by omega), if_pos (by omega)]
    unfold decodeN
    rw [if_neg (by omega), if_neg (by omega), if_neg (by omega), if_pos ⟨c1, ⟨by omega, c3⟩, ⟨by omega, c4⟩, by omega, c5⟩, if_pos ⟨cv, by omega⟩]
  · exact absurd e hb
theorem bad_pre {s : ByteArray} {c p : Nat} (hb : bad s p = false) (h : p + (dc s p).2 ≤ c) (hc : c ≤ s.size) : bad (s.extract 0 c) p = false := by
  rw [bad_false] at hb ⊢
  rw [dc_pre (by rw [bad_false]; exact hb) h hc]
  exact hb
theorem suf_runes (s : ByteArray) (c : Nat) : ∀ q, rns (s.extract c s.size) q = rns s (c + q) ∧ vls (s.extract c s.size) q = vls s (c + q) := by
  have hsz := ext_size s c s.size
  refine along (s.extract c s.size) _ ?_ ?_
  · intro q h
    rw [rns_end (by omega), vls_end (by omega), rns_end (by omega), vls_end (by omega)]
    exact ⟨rfl, rfl⟩
  · intro q h ih
    rw [dc_suf] at ih
    rw [rns_step h, vls_step h, rns_step (s := s) (p := c + q) (by omega), vls_step (s := s) (p := c + q) (by omega), dc_suf, ih.1, ih.2, show c + (q + (dc s (c + q)).2) = c + q + (dc s (c + q)).2 by omega]
    refine ⟨rfl, ?_⟩
    have e : bad (s.extract c s.size) q = bad s (c + q) := by unfold bad; rw [dc_suf]
    rw [e]
theorem cut_runes (s : ByteArray) : ∀ p, p ≤ s.size → vls s p = true → ∀ n : Nat, n ≤ (rns s p).length →
    rns (s.extract 0 (ct s n p)) p = (rns s p).take n ∧ vls (s.extract 0 (ct s n p)) p = true ∧ rns s (ct s n p) = (rns s p).drop n ∧ vls s (ct s n p) = true := by
  refine along s _ ?_ ?_
  · intro p h hp hv n hn
    have hc := ct_end (s := s) (n := n) (p := p) (by omega)
    have hx := ext_size s 0 (ct s n p)
    rw [rns_end (s := s) (p := p) (by omega)] at hn ⊢
    rw [rns_end (by omega), vls_end (by omega), rns_end (by omega), vls_end (by omega)]
    simp
  · intro p h ih hp hv n hn
    obtain ⟨hb, hv'⟩ := vls_head h hv
    have hw := dc_pos s p
    have hl := dc_le s p h
    cases n with
    | zero =>
      have hc : ct s ((0 : Nat) : Int) p = p := ct_stop h (by omega)
      rw [hc]
      have hx := ext_size s 0 p
      rw [rns_end (by omega), vls_end (by omega)]
      exact ⟨by simp, rfl, by simp, hv⟩
    | succ n =>
      have hc : ct s ((n + 1 : Nat) : Int) p = ct s (n : Int) (p + (dc s p).2) := by
        rw [ct_next h (by omega)]
        congr 1
        omega
      rw [rns_step h, List.length_cons] at hn
      have hk := ih hl hv' n (by omega)
      have hcl := ct_le s (p + (dc s p).2) hl (n : Int)
      rw [← hc] at hk hcl
      have hx := ext_size s 0 (ct s ((n + 1 : Nat) : Int) p)
      have e1 := dc_pre hb hcl.1 hcl.2
      have e2 := bad_pre hb hcl.1 hcl.2
      rw [rns_step (s := s.extract 0 _) (p := p) (by omega), vls_good (s := s.extract 0 _) (p := p) (by omega) e2, e1, hk.1, hk.2.1, rns_step h]
      exact ⟨by simp, rfl, by simpa using hk.2.2.1, hk.2.2.2⟩

/-! ### the place of each byte -/
theorem nl_byte {s : ByteArray} {p q : Nat} (h : p < s.size) (hb : bad s p = false) (h1 : p ≤ q) (h2 : q < p + (dc s p).2) : ((dc s p).1 = 10 ∧ bt s q = 10 ∧ (dc s p).2 = 1) ∨ ((dc s p).1 ≠ 10 ∧ bt s q ≠ 10) := by
  rw [bad_false, dc_N] at hb
  rw [dc_N] at h2 ⊢
  have k0 := bt_lt s p
  rcases decodeN_shape (s.size - p) (bt s p) (bt s (p + 1)) (bt s (p + 2)) (bt s (p + 3)) with ⟨c0, e⟩ | ⟨c1, c2, c3, cv, e⟩ | ⟨c1, c2, c3, c4, cv, cs, e⟩ | ⟨c1, c2, c3, c4, c5, cv, cw, e⟩ | e
  · rw [e] at h2 ⊢
    dsimp only at h2 ⊢
    obtain rfl : q = p := by omega
    by_cases h10 : bt s q = 10
    · exact .inl ⟨h10, h10, rfl⟩
    · exact .inr ⟨h10, h10⟩
  · rw [e] at h2 ⊢
    dsimp only at h2 ⊢
    rcases (show q = p ∨ q = p + 1 by omega) with rfl | rfl
    all_goals exact .inr ⟨by omega, by omega⟩
  · rw [e] at h2 ⊢
    dsimp only at h2 ⊢
    rcases (show q = p ∨ q = p + 1 ∨ q = p + 2 by omega) with rfl | rfl | rfl
    all_goals exact .inr ⟨by omega, by omega⟩
  · rw [e] at h2 ⊢
    dsimp only at h2 ⊢
    rcases (show q = p ∨ q = p + 1 ∨ q = p + 2 ∨ q = p + 3 by omega) with rfl | rfl | rfl | rfl
    all_goals exact .inr ⟨by omega, by omega⟩
  · exact absurd e hb
/-- From a byte to the next one: a line's end leads to the next line's first column; each other byte stays at its place or goes one column on. -/
theorem pl_succ (s : ByteArray) : ∀ p, vls s p = true → ∀ (st : Int × Int) (q : Nat), p ≤ q → q < s.size →
    (bt s q = 10 ∧ pl s ((q + 1 : Nat) : Int) st p = ((pl s (q : Int) st p).1 + 1, 1)) ∨
    (bt s q ≠ 10 ∧ (pl s ((q + 1 : Nat) : Int) st p = pl s (q : Int) st p ∨ pl s ((q + 1 : Nat) : Int) st p = ((pl s (q : Int) st p).1, (pl s (q : Int) st p).2 + 1))) := by
  refine along s _ ?_ ?_
  · intro p h _ st q h1 h2
    omega
  · intro p h ih hv st q h1 h2
    obtain ⟨hb, hv'⟩ := vls_head h hv
    have hw := dc_pos s p
    have hl := dc_le s p h
    by_cases hq : q < p + (dc s p).2
    · have hnl := nl_byte h hb h1 hq
      have e1 : pl s (q : Int) st p = st := pl_stop h (by omega)
      rw [e1]
      by_cases hq1 : q + 1 < p + (dc s p).2
      · have e2 : pl s ((q + 1 : Nat) : Int) st p = st := pl_stop h (by omega)
        rw [e2]
        rcases hnl with ⟨_, _, h3⟩ | ⟨_, h3⟩
        · omega
        · exact .inr ⟨h3, .inl rfl⟩
      · have e2 : pl s ((q + 1 : Nat) : Int) st p = bhd st (dc s p).1 := by
          rw [pl_next h (by omega)]
          by_cases hend : p + (dc s p).2 < s.size
          · have hw2 := dc_pos s (p + (dc s p).2)
            exact pl_stop hend (by omega)
          · exact pl_end hend
        rw [e2]
        unfold bhd
        rcases hnl with ⟨h3, h4, _⟩ | ⟨h3, h4⟩
        · rw [if_pos h3]; exact .inl ⟨h4, rfl⟩
        · rw [if_neg h3]; exact .inr ⟨h4, .inr rfl⟩
    · rw [pl_next h (by omega), pl_next (at_ := (q : Int)) h (by omega)]
      exact ih hv' _ q (by omega) h2
end Go.Proofs.Ytoejegndbcbkmaa.B
/-
  Plain facts, without the program: a text out of its runes. 'T l': the runes l as UTF-8; 'sz l': its bytes; 'ok r': r is a rune that may stand in a text.
-/
namespace Go.Proofs.Ytoejegndbcbkmaa.B
open Go.Lib

def ok (r : Nat) : Prop := r < 55296 ∨ (57343 < r ∧ r ≤ 1114111)
def okl (l : List Nat) : Prop := ∀ r ∈ l, ok r
def en (r : Nat) : List UInt8 := encodeRune (r : Int)
def enc : List Nat → List UInt8
  | [] => []
  | r :: t => en r ++ enc t
def T (l : List Nat) : ByteArray := ⟨(enc l).toArray⟩
def wd (r : Nat) : Nat := (en r).length
def sz (l : List Nat) : Nat := (enc l).length
theorem okl_nil : okl [] := fun _ h => by cases h
theorem okl_cons {r : Nat} {t : List Nat} : okl (r :: t) ↔ ok r ∧ okl t := by
  unfold okl; simp
theorem okl_app {a b : List Nat} : okl (a ++ b) ↔ okl a ∧ okl b := by
  unfold okl
  simp only [List.mem_append]
  exact ⟨fun h => ⟨fun r hr => h r (.inl hr), fun r hr => h r (.inr hr)⟩, fun h r hr => hr.elim (h.1 r) (h.2 r)⟩
theorem okl_sub {a b : List Nat} (h : okl b) (hs : ∀ r ∈ a, r ∈ b) : okl a := fun r hr => h r (hs r hr)
theorem okl_take {l : List Nat} (h : okl l) (n : Nat) : okl (l.take n) := okl_sub h fun _ hr => List.mem_of_mem_take hr
theorem okl_drop {l : List Nat} (h : okl l) (n : Nat) : okl (l.drop n) := okl_sub h fun _ hr => List.mem_of_mem_drop hr

theorem enc_app (a b : List Nat) : enc (a ++ b) = enc a ++ enc b := by
  induction a with
  | nil => rfl
  | cons r t ih => simp only [List.cons_append, enc, ih, List.append_assoc]
theorem T_list (l : List Nat) : (T l).data.toList = enc l := rfl
theorem T_size (l : List Nat) : (T l).size = sz l := by rw [size_eq, T_list]; rfl
theorem sz_app (a b : List Nat) : sz (a ++ b) = sz a + sz b := by unfold sz; rw [enc_app, List.length_append]
theorem sz_nil : sz [] = 0 := rfl
theorem sz_cons (r : Nat) (t : List Nat) : sz (r :: t) = wd r + sz t := by unfold sz wd; simp only [enc, List.length_append]
theorem wd_pos (r : Nat) : 1 ≤ wd r ∧ wd r ≤ 4 := by
  have := encodeRuneZ_length (r : Int)
  unfold wd en encodeRune
  rw [List.length_map]
  exact this
theorem sz_len (l : List Nat) : l.length ≤ sz l := by
  induction l with
  | nil => simp
  | cons r t ih =>
    have := (wd_pos r).1
    rw [sz_cons, List.length_cons]
    omega
theorem ba_ext {s t : ByteArray} (h : s.data.toList = t.data.toList) : s = t := by
  apply ByteArray.ext
  exact Array.ext' h
theorem T_app (a b : List Nat) : T (a ++ b) = T a ++ T b := by
  apply ba_ext
  rw [ByteArray.data_append, Array.toList_append, T_list, T_list, T_list, enc_app]
theorem T_suf (a b : List Nat) : (T (a ++ b)).extract (sz a) (sz (a ++ b)) = T b := by
  apply ba_ext
  rw [extract_data, T_list, T_list, enc_app, sz_app]
  unfold sz
  rw [List.drop_left, Nat.add_sub_cancel_left, List.take_length]
theorem T_pre (a b : List Nat) : (T (a ++ b)).extract 0 (sz a) = T a := by
  apply ba_ext
  rw [extract_data, T_list, T_list, enc_app]
  unfold sz
  rw [List.drop_zero, Nat.sub_zero, List.take_left]
theorem T_nil : T [] = ⟨#[]⟩ := rfl
theorem wd_ascii {r : Nat} (h : r < 128) : wd r = 1 ∧ en r = [UInt8.ofNat r] := by
  have e : en r = [UInt8.ofNat r] := by
    unfold en encodeRune
    rw [encodeRuneZ_one (by omega) (by omega)]
    rfl
  exact ⟨by unfold wd; rw [e]; rfl, e⟩
theorem u8n (n : Nat) (h : n < 256) : (UInt8.ofNat n).toNat = n := by simp [UInt8.toNat_ofNat']; omega

theorem en_is {r : Nat} (h : ok r) :
    (r < 128 ∧ en r = [UInt8.ofNat r]) ∨ (128 ≤ r ∧ r < 2048 ∧ en r = [UInt8.ofNat (192 + r / 64), UInt8.ofNat (128 + r % 64)]) ∨
    (2048 ≤ r ∧ r < 65536 ∧ en r = [UInt8.ofNat (224 + r / 4096), UInt8.ofNat (128 + r / 64 % 64), UInt8.ofNat (128 + r % 64)]) ∨
    (65536 ≤ r ∧ en r = [UInt8.ofNat (240 + r / 262144), UInt8.ofNat (128 + r / 4096 % 64), UInt8.ofNat (128 + r / 64 % 64), UInt8.ofNat (128 + r % 64)]) := by
  unfold ok at h
  unfold en encodeRune
  by_cases h1 : r < 128
  · rw [encodeRuneZ_one (by omega) (by omega)]
    exact .inl ⟨h1, rfl⟩
  by_cases h2 : r < 2048
  · rw [encodeRuneZ_two (by omega) (by omega)]
    simp only [List.map_cons, List.map_nil]
    rw [byteZ _ (192 + r / 64) (by omega), byteZ _ (128 + r % 64) (by omega)]
    exact .inr (.inl ⟨by omega, h2, rfl⟩)
  by_cases h3 : r < 65536
  · rw [encodeRuneZ_three (by omega)]
    simp only [List.map_cons, List.map_nil]
    rw [byteZ _ (224 + r / 4096) (by omega), byteZ _ (128 + r / 64 % 64) (by omega), byteZ _ (128 + r % 64) (by omega)]
    exact .inr (.inr (.inl ⟨by omega, h3, rfl⟩))
  · rw [encodeRuneZ_four (by omega) (by omega)]
    simp only [List.map_cons, List.map_nil]
    rw [byteZ _ (240 + r / 262144) (by omega), byteZ _ (128 + r / 4096 % 64) (by omega), byteZ _ (128 + r / 64 % 64) (by omega), byteZ _ (128 + r % 64) (by omega)]
    exact .inr (.inr (.inr ⟨by omega, rfl⟩))

set_option maxHeartbeats 4000000 in
theorem dc_T0 {r : Nat} (h : ok r) (b : List Nat) : dc (T (r :: b)) 0 = (r, wd r) := by
  have hz : (T (r :: b)).size = wd r + sz b := by rw [T_size, sz_cons]
  have hok := h
  unfold ok at hok
  rw [dc_N]
  simp only [bt_list, T_list, enc, Nat.zero_add, Nat.sub_zero]
  rw [hz]
  unfold wd
  rcases en_is h with ⟨h1, e⟩ | ⟨h1, h2, e⟩ | ⟨h1, h2, e⟩ | ⟨h1, e⟩
  · rw [e]
    simp only [List.cons_append, List.nil_append, List.getD_cons_zero, List.length_cons, List.length_nil]
    rw [u8n _ (by omega)]
    unfold decodeN
    rw [if_pos h1]
  · rw [e]
    simp only [List.cons_append, List.nil_append, List.getD_cons_zero, List.getD_cons_succ, List.length_cons, List.length_nil]
    rw [u8n _ (by omega), u8n _ (by omega)]
    generalize ((enc b).getD 0 0).toNat = x2
    generalize ((enc b).getD 1 0).toNat = x3
    unfold decodeN
    rw [if_neg (by omega), if_pos ⟨by omega, by omega, by omega⟩, if_pos (by omega)]
    exact Prod.ext (by dsimp only; omega) rfl
  · rw [e]
    simp only [List.cons_append, List.nil_append, List.getD_cons_zero, List.getD_cons_succ, List.length_cons, List.length_nil]
    rw [u8n _ (by omega), u8n _ (by omega), u8n _ (by omega)]
    generalize ((enc b).getD 0 0).toNat = x3
    unfold decodeN
    rw [if_neg (by omega), if_neg (by omega), if_pos ⟨by omega, ⟨by omega, by omega⟩, by omega, by omega⟩, if_pos ⟨by omega, by omega⟩]
    exact Prod.ext (by dsimp only; omega) rfl
  · rw [e]
    simp only [List.cons_append, List.nil_append, List.getD_cons_zero, List.getD_cons_succ, List.length_cons, List.length_nil]
    rw [u8n _ (by omega), u8n _ (by omega), u8n _ (by omega), u8n _ (by omega)]
    unfold decodeN
    rw [if_neg (by omega), if_neg (by omega), if_neg (by omega), if_pos ⟨by omega, ⟨by omega, by omega⟩, ⟨by omega, by omega⟩, by omega, by omega⟩, if_pos ⟨by omega, by omega⟩]
    exact Prod.ext (by dsimp only; omega) rfl

theorem dc_T (a : List Nat) {r : Nat} (h : ok r) (b : List Nat) : dc (T (a ++ r :: b)) (sz a) = (r, wd r) := by
  have e := dc_suf (T (a ++ r :: b)) (sz a) 0
  rw [Nat.add_zero, T_size, T_suf, dc_T0 h] at e
  exact e.symm
theorem bad_T (a : List Nat) {r : Nat} (h : ok r) (b : List Nat) : bad (T (a ++ r :: b)) (sz a) = false := by
  rw [bad_false, dc_T a h b]
  intro e
  injection e with e1 e2
  subst e1
  exact absurd e2 (by decide)
theorem rns_Ta (b : List Nat) : ∀ a : List Nat, okl b → rns (T (a ++ b)) (sz a) = b ∧ vls (T (a ++ b)) (sz a) = true := by
  induction b with
  | nil =>
    intro a _
    rw [List.append_nil, rns_end (by rw [T_size]; omega), vls_end (by rw [T_size]; omega)]
    exact ⟨rfl, rfl⟩
  | cons r t ih =>
    intro a h
    obtain ⟨h1, h2⟩ := okl_cons.1 h
    have hw := wd_pos r
    have hlt : sz a < (T (a ++ r :: t)).size := by rw [T_size, sz_app, sz_cons]; omega
    have e : a ++ r :: t = (a ++ [r]) ++ t := by simp
    have es : sz a + wd r = sz (a ++ [r]) := by rw [sz_app, sz_cons, sz_nil]; omega
    have k := ih (a ++ [r]) h2
    rw [← e, ← es] at k
    rw [rns_step hlt, vls_good hlt (bad_T a h1 t), dc_T a h1 t, k.1, k.2]
    exact ⟨rfl, rfl⟩
theorem rns_T {l : List Nat} (h : okl l) : rns (T l) 0 = l := (rns_Ta l [] h).1
theorem vls_T {l : List Nat} (h : okl l) : vls (T l) 0 = true := (rns_Ta l [] h).2
theorem T_inj {a b : List Nat} (ha : okl a) (hb : okl b) (h : T a = T b) : a = b := by
  rw [← rns_T ha, ← rns_T hb, h]

theorem rns_enc (s : ByteArray) : ∀ p, vls s p = true → enc (rns s p) = s.data.toList.drop p ∧ okl (rns s p) := by
  refine along s _ ?_ ?_
  · intro p h _
    rw [rns_end (by omega), List.drop_eq_nil_of_le (by rw [← size_eq]; omega)]
    exact ⟨rfl, okl_nil⟩
  · intro p h ih hv
    obtain ⟨hb, hv'⟩ := vls_head h hv
    obtain ⟨k1, k2⟩ := ih hv'
    rw [rns_step h]
    refine ⟨?_, okl_cons.2 ⟨dc_valid hb, k2⟩⟩
    show encodeRune ((dc s p).1 : Int) ++ enc (rns s (p + (dc s p).2)) = _
    rw [k1, dc_enc h hb]
    rw [← List.drop_drop]
    exact List.take_append_drop _ _
theorem T_rns {s : ByteArray} (h : vls s 0 = true) : T (rns s 0) = s := by
  apply ba_ext
  rw [T_list, (rns_enc s 0 h).1, List.drop_zero]
theorem rns_okl {s : ByteArray} (h : vls s 0 = true) : okl (rns s 0) := (rns_enc s 0 h).2

/-! ### plain signs at a text's head -/
def u8 (l : List Nat) : List UInt8 := l.map UInt8.ofNat
theorem en_head {r : Nat} (h : ok r) (hr : 128 ≤ r) : ∃ x t, en r = x :: t ∧ 128 ≤ x.toNat := by
  unfold ok at h
  rcases en_is h with ⟨h1, e⟩ | ⟨h1, h2, e⟩ | ⟨h1, h2, e⟩ | ⟨h1, e⟩
  · omega
  all_goals exact ⟨_, _, e, by rw [u8n _ (by omega)]; omega⟩
theorem isPrefixOf_cons {α : Type} [BEq α] (a b : α) (s t : List α) : (a :: s).isPrefixOf (b :: t) = (a == b && s.isPrefixOf t) := rfl
theorem pre_T {p l : List Nat} (hp : ∀ x ∈ p, x < 128) (h : okl l) : hasPrefix (enc l) (u8 p) = p.isPrefixOf l := by
  unfold hasPrefix
  induction p generalizing l with
  | nil => cases l <;> simp [u8]
  | cons x p ih =>
    have hx : x < 128 := hp x (by simp)
    cases l with
    | nil => simp [u8, enc]
    | cons r t =>
      obtain ⟨h1, h2⟩ := okl_cons.1 h
      have e1 : u8 (x :: p) = UInt8.ofNat x :: u8 p := rfl
      rw [e1, isPrefixOf_cons]
      show List.isPrefixOf _ (en r ++ enc t) = _
      by_cases hr : r < 128
      · rw [(wd_ascii hr).2]
        show (UInt8.ofNat x == UInt8.ofNat r && List.isPrefixOf (u8 p) (enc t)) = _
        rw [ih (fun y hy => hp y (by simp [hy])) h2]
        congr 1
        rw [Bool.eq_iff_iff, beq_iff_eq, beq_iff_eq]
        constructor
        · intro e
          have := congrArg UInt8.toNat e
          rw [u8n _ (by omega), u8n _ (by omega)] at this
          exact this
        · intro e; rw [e]
      · obtain ⟨y, u, e, hy⟩ := en_head h1 (by omega)
        rw [e]
        show (UInt8.ofNat x == y && _) = _
        have e2 : (UInt8.ofNat x == y) = false := by
          rw [beq_eq_false_iff_ne]
          intro e
          rw [← e, u8n _ (by omega)] at hy
          omega
        have e3 : (x == r) = false := by rw [beq_eq_false_iff_ne]; omega
        rw [e2, e3, Bool.false_and, Bool.false_and]
theorem enc_ascii {l : List Nat} (h : ∀ x ∈ l, x < 128) : enc l = u8 l := by
  induction l with
  | nil => rfl
  | cons r t ih =>
    show en r ++ enc t = UInt8.ofNat r :: u8 t
    rw [(wd_ascii (h r (by simp))).2, ih (fun x hx => h x (by simp [hx]))]
    rfl
theorem sz_ascii {l : List Nat} (h : ∀ x ∈ l, x < 128) : sz l = l.length := by
  unfold sz; rw [enc_ascii h]; simp [u8]
theorem ok_ascii {l : List Nat} (h : ∀ x ∈ l, x < 128) : okl l := fun r hr => .inl (by have := h r hr; omega)
end Go.Proofs.Ytoejegndbcbkmaa.B
/-
  Plain definitions, without the program: what layer 2 tells, over a text's runes: blanks, comments, words, names, numbers, signs, tokens.
-/
namespace Go.Proofs.Ytoejegndbcbkmaa.B
open Go.Lib

def inr (r : Nat) : Bool := decide (cls r = 1 ∨ cls r = 2 ∨ r = 39)
def blk (r : Nat) : Bool := decide (cls r = 3)
def dig (r : Nat) : Bool := decide (cls r = 2)
def lng (r : Nat) : Bool := inr r || decide (r = 46)
/-- How many runes at the head are of a kind. -/
def cnt (f : Nat → Bool) : List Nat → Nat
  | [] => 0
  | r :: t => if f r then cnt f t + 1 else 0
theorem cnt_le (f : Nat → Bool) (l : List Nat) : cnt f l ≤ l.length := by
  induction l with
  | nil => exact Nat.le_refl _
  | cons r t ih => unfold cnt; split <;> simp <;> omega

/-- In a comment: 'd' deep, behind the rune 'last': how many runes there are up to its end. -/
def cm (d : Int) (last : Nat) : List Nat → Option Nat
  | [] => none
  | r :: t =>
    if last = 40 ∧ r = 42 then (if d + 1 = 0 then some 1 else (cm (d + 1) 32 t).map (· + 1))
    else if last = 42 ∧ r = 41 then (if d - 1 = 0 then some 1 else (cm (d - 1) 32 t).map (· + 1))
    else (cm d r t).map (· + 1)
def opens (l : List Nat) : Bool := [40, 42].isPrefixOf l
def cmt (l : List Nat) : Nat := if opens l then (cm 0 32 l).getD 0 else 0
def btwF : Nat → List Nat → Nat
  | 0, _ => 0
  | f + 1, l => if cmt (l.drop (cnt blk l)) = 0 then cnt blk l else cnt blk l + cmt (l.drop (cnt blk l)) + btwF f (l.drop (cnt blk l + cmt (l.drop (cnt blk l))))
/-- How many runes of blanks and comments there are at the head. -/
def btw (l : List Nat) : Nat := btwF (l.length + 1) l

def WORDS : List (List Nat) := [[118, 97, 108], [116, 121, 112, 101], [100, 97, 116, 97, 116, 121, 112, 101], [115, 116, 114, 117, 99, 116, 117, 114, 101], [115, 105, 103, 110, 97, 116, 117, 114, 101], [102, 117, 110, 99, 116, 111, 114], [111, 112, 101, 110], [105, 110, 99, 108, 117, 100, 101], [115, 116, 114, 117, 99, 116], [101, 110, 100], [115, 105, 103], [119, 104, 101, 114, 101], [115, 104, 97, 114, 105, 110, 103], [102, 110], [108, 101, 116], [105, 110], [105, 102], [116, 104, 101, 110], [101, 108, 115, 101], [99, 97, 115, 101], [102, 111, 108, 100], [111, 102], [116, 111], [105, 110, 116], [98, 111, 111, 108], [117, 110, 105, 116], [116, 114, 117, 101], [102, 97, 108, 115, 101], [109, 117]]
def wrd (s : ByteArray) : Bool := WORDS.any fun x => decide (s = T x)
def SIGNS : List (List Nat) := [[58, 62], [61, 62], [45, 62], [35, 49], [35, 50], [40], [41], [123], [125], [44], [58], [61], [42], [43], [45], [60], [124]]

/-- A token: its kind, its text's runes, its number. -/
structure Tok where
  k : Int
  x : List Nat
  n : Int
  deriving DecidableEq

/-- Cut at dots. -/
def spl : List Nat → List (List Nat)
  | [] => [[]]
  | r :: t => if r = 46 then [] :: spl t else match spl t with | [] => [[r]] | a :: b => (r :: a) :: b
def isLong (x : List Nat) : Bool := decide (sz x ≤ 128) && (spl x).all fun y => !wrd (T y) && nm (T y)
def nameT (l : List Nat) : Option (Tok × Nat) :=
  if wrd (T (l.take (cnt lng l))) then some (⟨3, l.take (cnt lng l), 0⟩, cnt lng l)
  else if isLong (l.take (cnt lng l)) then some (⟨1, l.take (cnt lng l), 0⟩, cnt lng l) else none

/-- A number's digits, as runes. -/
def dgs (u : Nat) : List Nat := (decDigits u).map UInt8.toNat
def numb (n : Int) : List Nat := if n < 0 then 126 :: dgs n.natAbs else dgs n.toNat
/-- What digits spell. -/
def val (a : Nat) : List Nat → Nat
  | [] => a
  | r :: t => val (10 * a + (r - 48)) t
def digT (neg : Bool) (d : List Nat) : Option (Tok × Nat) :=
  if cnt inr (d.drop (cnt dig d)) > 0 then none
  else if cnt dig d = 0 then none
  else if 1073741824 < val 0 (d.take (cnt dig d)) then none
  else some (if neg then (⟨2, numb (-(val 0 (d.take (cnt dig d)) : Int)), -(val 0 (d.take (cnt dig d)) : Int)⟩, 1 + cnt dig d) else (⟨2, numb (val 0 (d.take (cnt dig d)) : Int), (val 0 (d.take (cnt dig d)) : Int)⟩, cnt dig d))
def numT (l : List Nat) : Option (Tok × Nat) := match l with
  | 126 :: d => digT true d
  | d => digT false d
def signT (l : List Nat) : Option (Tok × Nat) := (SIGNS.find? fun x => x.isPrefixOf l).map fun x => (⟨3, x, 0⟩, x.length)
def tokT (l : List Nat) : Option (Tok × Nat) := match l with
  | [] => none
  | r :: _ => if cls r = 1 then nameT l else if cls r = 2 ∨ r = 126 then numT l else if opens l then none else signT l

/-- Tokens and their places; or where none begins. -/
def lexF : Nat → List Nat → Nat → List (Tok × Nat) ⊕ Nat
  | 0, _, a => .inr a
  | f + 1, l, a =>
    if l.drop (btw l) = [] then .inl []
    else match tokT (l.drop (btw l)) with
      | none => .inr (a + sz (l.take (btw l)))
      | some (t, n) => match lexF f ((l.drop (btw l)).drop n) (a + sz (l.take (btw l)) + sz ((l.drop (btw l)).take n)) with
        | .inl r => .inl ((t, a + sz (l.take (btw l))) :: r)
        | .inr e => .inr e
def lexL (l : List Nat) (a : Nat) : List (Tok × Nat) ⊕ Nat := lexF (l.length + 1) l a

/-! ### how they go on -/
theorem cm_some {d : Int} {last : Nat} {l : List Nat} {k : Nat} (h : cm d last l = some k) : 1 ≤ k ∧ k ≤ l.length := by
  induction l generalizing d last k with
  | nil => cases h
  | cons r t ih =>
    unfold cm at h
    have key : ∀ {d' : Int} {last' : Nat}, (cm d' last' t).map (· + 1) = some k → 1 ≤ k ∧ k ≤ (r :: t).length := by
      intro d' last' h
      obtain ⟨j, hj, rfl⟩ := Option.map_eq_some_iff.1 h
      have := ih hj
      simp
      omega
    split at h
    · split at h
      · injection h with h; subst h; simp
      · exact key h
    · split at h
      · split at h
        · injection h with h; subst h; simp
        · exact key h
      · exact key h
theorem cmt_le (l : List Nat) : cmt l ≤ l.length := by
  unfold cmt
  split
  · cases h : cm 0 32 l with
    | none => simp
    | some k => exact (cm_some h).2
  · omega
theorem btwF_fuel : ∀ (f g : Nat) (l : List Nat), l.length < f → l.length < g → btwF f l = btwF g l
  | 0, _, _, h, _ => by omega
  | _ + 1, 0, _, _, h => by omega
  | f + 1, g + 1, l, h1, h2 => by
    have hc := cmt_le (l.drop (cnt blk l))
    simp only [List.length_drop] at hc
    simp only [btwF]
    by_cases h : cmt (l.drop (cnt blk l)) = 0
    · rw [if_pos h, if_pos h]
    · rw [if_neg h, if_neg h, btwF_fuel f g _ (by simp only [List.length_drop]; omega) (by simp only [List.length_drop]; omega)]
theorem btw_end {l : List Nat} (h : cmt (l.drop (cnt blk l)) = 0) : btw l = cnt blk l := by
  show btwF (l.length + 1) l = _
  simp only [btwF, if_pos h]
theorem btw_step {l : List Nat} (h : cmt (l.drop (cnt blk l)) ≠ 0) : btw l = cnt blk l + cmt (l.drop (cnt blk l)) + btw (l.drop (cnt blk l + cmt (l.drop (cnt blk l)))) := by
  have hc := cmt_le (l.drop (cnt blk l))
  have hl := cnt_le blk l
  simp only [List.length_drop] at hc
  show btwF (l.length + 1) l = _
  simp only [btwF, if_neg h]
  unfold btw
  rw [btwF_fuel l.length (((l.drop (cnt blk l + cmt (l.drop (cnt blk l)))).length) + 1) _ (by simp only [List.length_drop]; omega) (by omega)]
theorem btwF_le : ∀ (f : Nat) (l : List Nat), btwF f l ≤ l.length
  | 0, l => by simp [btwF]
  | f + 1, l => by
    have hl := cnt_le blk l
    have hc := cmt_le (l.drop (cnt blk l))
    have := btwF_le f (l.drop (cnt blk l + cmt (l.drop (cnt blk l))))
    simp only [List.length_drop] at hc this
    simp only [btwF]
    split <;> omega
theorem btw_le (l : List Nat) : btw l ≤ l.length := btwF_le _ l

theorem digT_some {b : Bool} {d : List Nat} {t : Tok} {n : Nat} (h : digT b d = some (t, n)) : 1 ≤ n ∧ n ≤ d.length + (if b then 1 else 0) := by
  unfold digT at h
  have := cnt_le dig d
  split at h
  · cases h
  split at h
  · cases h
  split at h
  · cases h
  · cases b
    · simp at h; simp; omega
    · simp at h; simp; omega
theorem cnt_head {f : Nat → Bool} {r : Nat} {t : List Nat} (h : f r = true) : 1 ≤ cnt f (r :: t) := by simp [cnt, h]
theorem signs_pos : ∀ x ∈ SIGNS, 1 ≤ x.length := by decide
theorem find_pre {l x : List Nat} (h : SIGNS.find? (fun x => x.isPrefixOf l) = some x) : x ∈ SIGNS ∧ x <+: l := by
  refine ⟨List.mem_of_find?_eq_some h, ?_⟩
  have := List.find?_some h
  exact List.isPrefixOf_iff_prefix.1 this
theorem tokT_some {l : List Nat} {t : Tok} {n : Nat} (h : tokT l = some (t, n)) : 1 ≤ n ∧ n ≤ l.length := by
  cases l with
  | nil => cases h
  | cons r u =>
    unfold tokT at h
    simp only at h
    split at h
    · rename_i hr
      have h1 : 1 ≤ cnt lng (r :: u) := cnt_head (by simp [lng, inr, hr])
      have h2 := cnt_le lng (r :: u)
      unfold nameT at h
      split at h
      · simp at h; omega
      · split at h
        · simp at h; omega
        · cases h
    · split at h
      · unfold numT at h
        split at h
        · have := digT_some h; simp_all
        · have := digT_some h; simp_all
      · split at h
        · cases h
        · unfold signT at h
          obtain ⟨x, hx, he⟩ := Option.map_eq_some_iff.1 h
          obtain ⟨h1, h2⟩ := find_pre hx
          have h3 := signs_pos x h1
          have h4 := h2.length_le
          simp at he
          omega
theorem lexF_fuel : ∀ (f g : Nat) (l : List Nat) (a : Nat), l.length < f → l.length < g → lexF f l a = lexF g l a
  | 0, _, _, _, h, _ => by omega
  | _ + 1, 0, _, _, _, h => by omega
  | f + 1, g + 1, l, a, h1, h2 => by
    simp only [lexF]
    split
    · rfl
    · split
      · rfl
      · rename_i t n e
        have := tokT_some e
        simp only [List.length_drop] at this
        rw [lexF_fuel f g _ _ (by simp only [List.length_drop]; omega) (by simp only [List.length_drop]; omega)]
theorem lex_end {l : List Nat} {a : Nat} (h : l.drop (btw l) = []) : lexL l a = .inl [] := by
  unfold lexL; simp only [lexF, if_pos h]
theorem lex_bad {l : List Nat} {a : Nat} (h : l.drop (btw l) ≠ []) (e : tokT (l.drop (btw l)) = none) : lexL l a = .inr (a + sz (l.take (btw l))) := by
  unfold lexL; simp only [lexF, if_neg h, e]
theorem lex_next {l : List Nat} {a : Nat} {t : Tok} {n : Nat} (h : l.drop (btw l) ≠ []) (e : tokT (l.drop (btw l)) = some (t, n)) :
    lexL l a = match lexL ((l.drop (btw l)).drop n) (a + sz (l.take (btw l)) + sz ((l.drop (btw l)).take n)) with
      | .inl r => .inl ((t, a + sz (l.take (btw l))) :: r)
      | .inr e => .inr e := by
  have hn := tokT_some e
  simp only [List.length_drop] at hn
  have hb := btw_le l
  unfold lexL
  rw [show lexF (l.length + 1) l a = (if l.drop (btw l) = [] then Sum.inl [] else match tokT (l.drop (btw l)) with
      | none => .inr (a + sz (l.take (btw l)))
      | some (t, n) => match lexF l.length ((l.drop (btw l)).drop n) (a + sz (l.take (btw l)) + sz ((l.drop (btw l)).take n)) with
        | .inl r => .inl ((t, a + sz (l.take (btw l))) :: r)
        | .inr e => .inr e) from rfl, if_neg h, e]
  simp only
  rw [lexF_fuel l.length (((l.drop (btw l)).drop n).length + 1) _ _ (by simp only [List.length_drop]; omega) (by omega)]

/-! ### checked texts -/
/-- Any text's place and error, as Check tells them. -/
def ckr (s : ByteArray) : Int × Int := if 16384 < s.size then (0, 3) else ck s 0
theorem ck_ok (s : ByteArray) : ∀ p, ((ck s p).2 = 0 ∧ (ck s p).1 = 0 ∧ vls s p = true ∧ ∀ r ∈ rns s p, rdb (r : Int) = true) ∨ ((ck s p).2 = 4) := by
  refine along s _ ?_ ?_
  · intro p h
    rw [ck_end (by omega), vls_end (by omega), rns_end (by omega)]
    exact .inl ⟨rfl, rfl, rfl, fun _ h => by cases h⟩
  · intro p h ih
    cases hr : rdb ((dc s p).1 : Int)
    · rw [ck_stop h hr]; exact .inr rfl
    · rw [ck_next h hr]
      rcases ih with ⟨h1, h2, h3, h4⟩ | h1
      · refine .inl ⟨h1, h2, ?_, ?_⟩
        · cases hb : bad s p
          · rw [vls_good h hb]; exact h3
          · rw [dc_bad1 hb] at hr
            exact absurd hr (by decide)
        · rw [rns_step h]
          intro r hrr
          rcases List.mem_cons.1 hrr with rfl | h5
          · exact hr
          · exact h4 r h5
      · exact .inr h1
theorem ck_T : ∀ {l : List Nat} (a : List Nat), okl (a ++ l) → (∀ r ∈ l, rdb (r : Int) = true) → ck (T (a ++ l)) (sz a) = (0, 0) := by
  intro l
  induction l with
  | nil => intro a _ _; rw [List.append_nil]; exact ck_end (by rw [T_size]; omega)
  | cons r t ih =>
    intro a h hr
    obtain ⟨h0, h1⟩ := okl_app.1 h
    obtain ⟨h1, h2⟩ := okl_cons.1 h1
    have hw := wd_pos r
    have hlt : sz a < (T (a ++ r :: t)).size := by rw [T_size, sz_app, sz_cons]; omega
    have e : a ++ r :: t = (a ++ [r]) ++ t := by simp
    have es : sz a + wd r = sz (a ++ [r]) := by rw [sz_app, sz_cons, sz_nil]; omega
    have k := ih (a ++ [r]) (by rw [← e]; exact h) (fun x hx => hr x (by simp [hx]))
    rw [ck_next hlt (by rw [dc_T a h1 t]; exact hr r (by simp)), dc_T a h1 t]
    rw [← e, ← es] at k
    exact k
/-- What Lex tells: its tokens, the place, the error. -/
def lexR (s : ByteArray) : List (Tok × Nat) × Int × Int :=
  if (ckr s).2 = 0 then (match lexL (rns s 0) 0 with | .inl l => (l, 0, 0) | .inr a => ([], (a : Int), 5)) else ([], (ckr s).1, (ckr s).2)
end Go.Proofs.Ytoejegndbcbkmaa.B
/-
  Plain facts, without the program: a text's pieces between its dots, and what is joined of pieces.
-/
namespace Go.Proofs.Ytoejegndbcbkmaa.B
open Go.Lib

/-- What dots part. -/
def pcl : List UInt8 → List (List UInt8)
  | [] => [[]]
  | b :: l => if b = 46 then [] :: pcl l else match pcl l with
    | [] => [[b]]
    | x :: r => (b :: x) :: r
/-- Pieces with dots between. -/
def jn : List (List UInt8) → List UInt8
  | [] => []
  | x :: r => x ++ (match r with | [] => [] | _ :: _ => 46 :: jn r)
theorem jn_one (x : List UInt8) : jn [x] = x := by simp [jn]
theorem jn_two (x y : List UInt8) (r : List (List UInt8)) : jn (x :: y :: r) = x ++ 46 :: jn (y :: r) := rfl
theorem pcl_ne (l : List UInt8) : pcl l ≠ [] := by
  cases l with
  | nil => simp [pcl]
  | cons b t =>
    unfold pcl
    split
    · simp
    · cases pcl t <;> simp
theorem pcl_cons {b : UInt8} {t : List UInt8} (h : b ≠ 46) : ∃ x r, pcl t = x :: r ∧ pcl (b :: t) = (b :: x) :: r := by
  cases hp : pcl t with
  | nil => exact absurd hp (pcl_ne t)
  | cons x r => exact ⟨x, r, rfl, by rw [pcl, if_neg h, hp]⟩
theorem pcl_none {l : List UInt8} (h : (46 : UInt8) ∉ l) : pcl l = [l] := by
  induction l with
  | nil => rfl
  | cons r t ih =>
    simp only [List.mem_cons, not_or] at h
    unfold pcl
    rw [if_neg (fun e => h.1 e.symm), ih h.2]
theorem pcl_at {a r : List UInt8} (h : (46 : UInt8) ∉ a) : pcl (a ++ 46 :: r) = a :: pcl r := by
  induction a with
  | nil => show pcl (46 :: r) = _; simp [pcl]
  | cons x t ih =>
    simp only [List.mem_cons, not_or] at h
    show pcl (x :: (t ++ 46 :: r)) = _
    rw [pcl, if_neg (fun e => h.1 e.symm), ih h.2]
theorem dot_in (l : List UInt8) : (46 : UInt8) ∉ l ∨ ∃ a r, l = a ++ 46 :: r ∧ (46 : UInt8) ∉ a := by
  induction l with
  | nil => left; simp
  | cons x t ih =>
    by_cases hx : x = 46
    · right; exact ⟨[], t, by rw [hx]; rfl, by simp⟩
    · rcases ih with h | ⟨a, r, rfl, h⟩
      · left; simp; exact ⟨fun e => hx e.symm, h⟩
      · right; exact ⟨x :: a, r, rfl, by simp; exact ⟨fun e => hx e.symm, h⟩⟩
/-- Along the pieces of a text. -/
theorem by_pieces (Q : List UInt8 → Prop) (h1 : ∀ l, (46 : UInt8) ∉ l → Q l) (h2 : ∀ a r, (46 : UInt8) ∉ a → Q r → Q (a ++ 46 :: r)) : ∀ l, Q l := by
  have : ∀ n, ∀ l : List UInt8, l.length ≤ n → Q l := by
    intro n
    induction n with
    | zero => intro l hl; rw [List.eq_nil_of_length_eq_zero (by omega : l.length = 0)]; exact h1 _ (by simp)
    | succ n ih =>
      intro l hl
      rcases dot_in l with h | ⟨a, r, rfl, h⟩
      · exact h1 l h
      · exact h2 a r h (ih r (by simp at hl; omega))
  exact fun l => this l.length l (Nat.le_refl _)
theorem jn_cons {x : List UInt8} {r : List (List UInt8)} (h : r ≠ []) : jn (x :: r) = x ++ 46 :: jn r := by
  cases r with
  | nil => exact absurd rfl h
  | cons y t => rfl
theorem jn_pcl : ∀ l, jn (pcl l) = l := by
  refine by_pieces _ (fun l h => by rw [pcl_none h, jn_one]) fun a r h ih => ?_
  rw [pcl_at h, jn_cons (pcl_ne r), ih]
theorem pcl_nodot : ∀ l, ∀ x ∈ pcl l, (46 : UInt8) ∉ x := by
  refine by_pieces _ (fun l h x hx => ?_) fun a r h ih x hx => ?_
  · rw [pcl_none h] at hx; rw [List.mem_singleton.1 hx]; exact h
  · rw [pcl_at h] at hx
    rcases List.mem_cons.1 hx with rfl | hx
    · exact h
    · exact ih x hx
theorem pcl_jn {xs : List (List UInt8)} (h : xs ≠ []) (hd : ∀ x ∈ xs, (46 : UInt8) ∉ x) : pcl (jn xs) = xs := by
  induction xs with
  | nil => exact absurd rfl h
  | cons x r ih =>
    by_cases hr : r = []
    · subst hr; rw [jn_one]; exact pcl_none (hd x (by simp))
    · rw [jn_cons hr, pcl_at (hd x (by simp)), ih hr fun y hy => hd y (by simp [hy])]
theorem join_jn (xs : List (List UInt8)) : Lib.join xs [46] = jn xs := by
  induction xs with
  | nil => rfl
  | cons x r ih =>
    by_cases hr : r = []
    · subst hr; rw [join_one, jn_one]
    · rw [jn_cons hr, ← ih, join_cons]
      cases r with
      | nil => exact absurd rfl hr
      | cons y t => rw [join_cons]; simp [joinTail]
theorem ibx_none {x : List UInt8} {c : UInt8} (h : c ∉ x) : indexByte x c = -1 := by
  induction x with
  | nil => rfl
  | cons b t ih =>
    simp only [List.mem_cons, not_or] at h
    unfold indexByte
    rw [if_neg (by simp; exact fun e => h.1 e.symm), ih h.2]
    rfl
theorem ibx_at {x y : List UInt8} {c : UInt8} (h : c ∉ x) : indexByte (x ++ c :: y) c = (x.length : Int) := by
  induction x with
  | nil => simp [indexByte]
  | cons b t ih =>
    simp only [List.mem_cons, not_or] at h
    show indexByte (b :: (t ++ c :: y)) c = _
    unfold indexByte
    rw [if_neg (by simp; exact fun e => h.1 e.symm), ih h.2, if_neg (by simp)]
    simp
theorem cut_none {l : List UInt8} (h : (46 : UInt8) ∉ l) : Lib.cut l [46] = (l, [], false) := by
  unfold Lib.cut
  rw [index_one, ibx_none h]
  rfl
theorem cut_at {a r : List UInt8} (h : (46 : UInt8) ∉ a) : Lib.cut (a ++ 46 :: r) [46] = (a, r, true) := by
  unfold Lib.cut
  rw [index_one, ibx_at h, if_pos (by omega)]
  have e : ((a.length : Int)).toNat = a.length := by omega
  rw [e]
  have e2 : (a ++ 46 :: r).drop (a.length + 1) = r := by
    rw [← List.drop_drop, List.drop_left]; rfl
  simp only [List.take_left', List.length_singleton, e2]
theorem pcl_len : ∀ l, 1 ≤ (pcl l).length ∧ (pcl l).length ≤ l.length + 1 := by
  refine by_pieces _ (fun l h => by rw [pcl_none h]; simp) fun a r h ih => ?_
  rw [pcl_at h]; simp; omega
theorem pcl_sz : ∀ l, ∀ x ∈ pcl l, x.length ≤ l.length := by
  refine by_pieces _ (fun l h x hx => ?_) fun a r h ih x hx => ?_
  · rw [pcl_none h] at hx; rw [List.mem_singleton.1 hx]; exact Nat.le_refl _
  · rw [pcl_at h] at hx
    rcases List.mem_cons.1 hx with rfl | hx
    · simp
    · have := ih x hx; simp; omega
theorem jn_app : ∀ {xs ys : List (List UInt8)}, xs ≠ [] → ys ≠ [] → jn (xs ++ ys) = jn xs ++ 46 :: jn ys
  | [], _, h, _ => absurd rfl h
  | [x], ys, _, hy => by rw [jn_one]; exact jn_cons hy
  | x :: y :: r, ys, _, hy => by
    have ih := jn_app (xs := y :: r) (ys := ys) (by simp) hy
    show x ++ 46 :: jn (y :: r ++ ys) = (x ++ 46 :: jn (y :: r)) ++ 46 :: jn ys
    rw [ih]
    simp
/-- Pieces begin with pieces just if the text begins with the text, and a dot, or nothing, follows. -/
theorem pre_pieces : ∀ (p s : List (List UInt8)), p ≠ [] → s ≠ [] → (∀ x ∈ p, (46 : UInt8) ∉ x) → (∀ x ∈ s, (46 : UInt8) ∉ x) →
    ((∃ t, jn s = jn p ++ t ∧ (t = [] ∨ ∃ u, t = 46 :: u)) ↔ p <+: s) := by
  intro p s hp hs hdp hds
  constructor
  · rintro ⟨t, ht, h⟩
    rcases h with rfl | ⟨u, rfl⟩
    · rw [List.append_nil] at ht
      have e := congrArg pcl ht
      rw [pcl_jn hs hds, pcl_jn hp hdp] at e
      rw [e]; exact List.prefix_refl _
    · have e : jn s = jn (p ++ pcl u) := by rw [jn_app hp (pcl_ne u), jn_pcl, ht]
      have e2 := congrArg pcl e
      rw [pcl_jn hs hds, pcl_jn (by simp [hp]) (by
        intro x hx
        rcases List.mem_append.1 hx with hx | hx
        · exact hdp x hx
        · exact pcl_nodot u x hx)] at e2
      rw [e2]; exact List.prefix_append _ _
  · rintro ⟨r, rfl⟩
    by_cases hr : r = []
    · subst hr; exact ⟨[], by simp, .inl rfl⟩
    · exact ⟨46 :: jn r, jn_app hp hr, .inr ⟨_, rfl⟩⟩
/-- What is moved: pieces ahead, and what stood behind. -/
theorem jn_move {a p s : List (List UInt8)} (ha : a ≠ []) (hp : p ≠ []) (h : p <+: s) : jn (a ++ s.drop p.length) = jn a ++ (jn s).drop (jn p).length := by
  obtain ⟨r, rfl⟩ := h
  rw [List.drop_left]
  by_cases hr : r = []
  · subst hr; simp
  · rw [jn_app ha hr, jn_app hp hr, List.drop_left]
end Go.Proofs.Ytoejegndbcbkmaa.B
/-
  Plain facts, without the program: a byte of a text is a rune of it.
-/
namespace Go.Proofs.Ytoejegndbcbkmaa.B
open Go.Lib

theorem mem_en {r : Nat} (h : ok r) {b : UInt8} (hb : b ∈ en r) : (r < 128 ∧ b = UInt8.ofNat r) ∨ 128 ≤ b.toNat := by
  unfold ok at h
  rcases en_is h with ⟨h1, e⟩ | ⟨h1, h2, e⟩ | ⟨h1, h2, e⟩ | ⟨h1, e⟩
  · rw [e] at hb; simp only [List.mem_singleton] at hb; exact .inl ⟨h1, hb⟩
  all_goals
    rw [e] at hb
    simp only [List.mem_cons, List.not_mem_nil, or_false] at hb
    right
    rcases hb with rfl | rfl | rfl | rfl
    all_goals (rw [u8n _ (by omega)]; omega)
theorem mem_enc {l : List Nat} (ho : okl l) {c : Nat} (hc : c < 128) (h : UInt8.ofNat c ∈ enc l) : c ∈ l := by
  induction l with
  | nil => cases h
  | cons r t ih =>
    obtain ⟨h1, h2⟩ := okl_cons.1 ho
    have h' : UInt8.ofNat c ∈ en r ++ enc t := h
    rcases List.mem_append.1 h' with h3 | h3
    · rcases mem_en h1 h3 with ⟨h4, h5⟩ | h4
      · have := congrArg UInt8.toNat h5
        rw [u8n _ (by omega), u8n _ (by omega)] at this
        rw [this]
        simp
      · rw [u8n _ (by omega)] at h4
        omega
    · exact List.mem_cons_of_mem _ (ih h2 h3)
end Go.Proofs.Ytoejegndbcbkmaa.B
