/-
  Plain facts, without the program: texts as runes, by places in the text. 'dc s p': the rune that begins at byte p and its width; (65533, 1): none begins there. 'rns s p': the runes from place p on; 'vls s p': all from there on is right UTF-8.
-/
import Derived.Lib.RuneCount
import Derived.Lib.ValidLaws
namespace Go.Proofs.YthonaeigacfmbaaGreatDoor.B
open Go.Lib

abbrev dc (s : ByteArray) (p : Nat) : Nat × Nat := Utf8.decode s p
def bt (s : ByteArray) (p : Nat) : Nat := (s.get! p).toNat
theorem bt_lt (s : ByteArray) (p : Nat) : bt s p < 256 := (s.get! p).toNat_lt
theorem dc_N (s : ByteArray) (p : Nat) : dc s p = decodeN (s.size - p) (bt s p) (bt s (p + 1)) (bt s (p + 2)) (bt s (p + 3)) := decode_at s p
theorem bt_get (s : ByteArray) (p : Nat) (h : p < s.size) : ((s[p]'h).toNat) = bt s p := by
  unfold bt
  simp [ByteArray.get!, getElem!_pos, h]
  rfl

theorem dc_pos (s : ByteArray) (p : Nat) : 1 ≤ (dc s p).2 := width_pos s p
theorem dc_rune (s : ByteArray) (p : Nat) : (dc s p).1 ≤ 1114111 := rune_le s p
theorem dc_le (s : ByteArray) (p : Nat) (h : p < s.size) : p + (dc s p).2 ≤ s.size := by
  rw [dc_N]
  rcases decodeN_shape (s.size - p) (bt s p) (bt s (p + 1)) (bt s (p + 2)) (bt s (p + 3)) with ⟨c, e⟩ | ⟨c1, c2, c3, cv, e⟩ | ⟨c1, c2, c3, c4, cv, cs, e⟩ | ⟨c1, c2, c3, c4, c5, cv, cw, e⟩ | e
  all_goals (rw [e]; dsimp only; omega)

def bad (s : ByteArray) (p : Nat) : Bool := decide (dc s p = (65533, 1))
theorem bad_iff (s : ByteArray) (p : Nat) : bad s p = true ↔ dc s p = (65533, 1) := by simp [bad]
theorem bad_false (s : ByteArray) (p : Nat) : bad s p = false ↔ dc s p ≠ (65533, 1) := by simp [bad]

def nx (s : ByteArray) (p : Nat) : Nat × Nat := if bad s p then (0, 0) else dc s p
theorem nx_bad {s : ByteArray} {p : Nat} (h : bad s p = true) : nx s p = (0, 0) := by simp [nx, h]
theorem nx_good {s : ByteArray} {p : Nat} (h : bad s p = false) : nx s p = dc s p := by simp [nx, h]
/-! ### the document's decoder, lead byte by lead byte -/
def acc (s : ByteArray) (p r : Nat) : Nat → Nat
  | 0 => r
  | k + 1 => 64 * acc s p r k + (bt s (p + (k + 1)) - 128)
def contAt (s : ByteArray) (p k : Nat) : Prop := 128 ≤ bt s (p + k) ∧ bt s (p + k) ≤ 191

def Lead (b n off least : Nat) : Prop :=
  (n = 2 ∧ off = 192 ∧ least = 128 ∧ 194 ≤ b ∧ b < 224) ∨ (n = 3 ∧ off = 224 ∧ least = 2048 ∧ 224 ≤ b ∧ b < 240) ∨ (n = 4 ∧ off = 240 ∧ least = 65536 ∧ 240 ≤ b ∧ b < 245)

set_option maxHeartbeats 4000000 in
theorem lead_short {s : ByteArray} {p n off least : Nat} (h : Lead (bt s p) n off least) (hs : s.size - p < n) : bad s p = true := by
  rw [bad_iff, dc_N]
  have h1 := bt_lt s (p + 1)
  rcases h with ⟨rfl, rfl, rfl, hl, hu⟩ | ⟨rfl, rfl, rfl, hl, hu⟩ | ⟨rfl, rfl, rfl, hl, hu⟩
  all_goals
    unfold decodeN
    repeat' split
    all_goals first | rfl | (exfalso; omega)

set_option maxHeartbeats 4000000 in
theorem lead_cont {s : ByteArray} {p n off least k : Nat} (h : Lead (bt s p) n off least) (hk : 1 ≤ k) (hkn : k < n) (hc : ¬ contAt s p k) : bad s p = true := by
  rw [bad_iff, dc_N]
  have h1 := bt_lt s (p + 1)
  have h2 := bt_lt s (p + 2)
  have h3 := bt_lt s (p + 3)
  unfold contAt at hc
  have hk' : k = 1 ∨ k = 2 ∨ k = 3 := by rcases h with h | h | h <;> omega
  rcases hk' with rfl | rfl | rfl
  all_goals
    rcases h with ⟨rfl, rfl, rfl, hl, hu⟩ | ⟨rfl, rfl, rfl, hl, hu⟩ | ⟨rfl, rfl, rfl, hl, hu⟩
    all_goals
      unfold decodeN
      repeat' split
      all_goals first | rfl | (exfalso; omega)

theorem acc_lt (s : ByteArray) (p r k : Nat) (hr : r < 64) (hk : k ≤ 3) : acc s p r k < 20000000 := by
  have h1 := bt_lt s (p + 1)
  have h2 := bt_lt s (p + 2)
  have h3 := bt_lt s (p + 3)
  have e0 : acc s p r 0 = r := rfl
  have e1 : acc s p r 1 = 64 * acc s p r 0 + (bt s (p + 1) - 128) := rfl
  have e2 : acc s p r 2 = 64 * acc s p r 1 + (bt s (p + 2) - 128) := rfl
  have e3 : acc s p r 3 = 64 * acc s p r 2 + (bt s (p + 3) - 128) := rfl
  have hk' : k = 0 ∨ k = 1 ∨ k = 2 ∨ k = 3 := by omega
  rcases hk' with rfl | rfl | rfl | rfl <;> omega

set_option maxHeartbeats 8000000 in
set_option maxRecDepth 100000 in
theorem lead_two {n b0 b1 b2 b3 : Nat} (hl : 194 ≤ b0) (hu : b0 < 224) (hs : 2 ≤ n) (c1 : 128 ≤ b1 ∧ b1 ≤ 191) : decodeN n b0 b1 b2 b3 = (64 * (b0 - 192) + (b1 - 128), 2) := by
  unfold decodeN
  repeat' split
  all_goals first | (exfalso; omega) | (apply Prod.ext <;> simp only <;> omega)
set_option maxHeartbeats 8000000 in
set_option maxRecDepth 100000 in
theorem lead_three {n b0 b1 b2 b3 r : Nat} (hl : 224 ≤ b0) (hu : b0 < 240) (hs : 3 ≤ n) (c1 : 128 ≤ b1 ∧ b1 ≤ 191) (c2 : 128 ≤ b2 ∧ b2 ≤ 191) (hr : r = 64 * (64 * (b0 - 224) + (b1 - 128)) + (b2 - 128)) :
    (r < 2048 ∨ 1114111 < r ∨ (55296 ≤ r ∧ r ≤ 57343) → decodeN n b0 b1 b2 b3 = (65533, 1)) ∧ (¬ (r < 2048 ∨ 1114111 < r ∨ (55296 ≤ r ∧ r ≤ 57343)) → decodeN n b0 b1 b2 b3 = (r, 3)) := by
  constructor
  · intro hb
    unfold decodeN
    repeat' split
    all_goals first | rfl | (exfalso; omega)
  · intro hb
    unfold decodeN
    repeat' split
    all_goals first | (exfalso; omega) | (apply Prod.ext <;> simp only <;> omega)
set_option maxHeartbeats 8000000 in
set_option maxRecDepth 100000 in
theorem lead_four {n b0 b1 b2 b3 r : Nat} (hl : 240 ≤ b0) (hu : b0 < 245) (hs : 4 ≤ n) (c1 : 128 ≤ b1 ∧ b1 ≤ 191) (c2 : 128 ≤ b2 ∧ b2 ≤ 191) (c3 : 128 ≤ b3 ∧ b3 ≤ 191)
    (hr : r = 64 * (64 * (64 * (b0 - 240) + (b1 - 128)) + (b2 - 128)) + (b3 - 128)) :
    (r < 65536 ∨ 1114111 < r ∨ (55296 ≤ r ∧ r ≤ 57343) → decodeN n b0 b1 b2 b3 = (65533, 1)) ∧ (¬ (r < 65536 ∨ 1114111 < r ∨ (55296 ≤ r ∧ r ≤ 57343)) → decodeN n b0 b1 b2 b3 = (r, 4)) := by
  constructor
  · intro hb
    unfold decodeN
    repeat' split
    all_goals first | rfl | (exfalso; omega)
  · intro hb
    unfold decodeN
    repeat' split
    all_goals first | (exfalso; omega) | (apply Prod.ext <;> simp only <;> omega)

theorem pair_ne {a b : Nat} (h : b ≠ 1) : (a, b) ≠ ((65533 : Nat), (1 : Nat)) := fun hx => h (congrArg Prod.snd hx)
theorem lead_whole {s : ByteArray} {p n off least r : Nat} (h : Lead (bt s p) n off least) (hs : n ≤ s.size - p) (hc : ∀ k, 1 ≤ k → k < n → contAt s p k) (hr : r = acc s p (bt s p - off) (n - 1)) :
    (r < least ∨ 1114111 < r ∨ (55296 ≤ r ∧ r ≤ 57343) → bad s p = true) ∧ (¬ (r < least ∨ 1114111 < r ∨ (55296 ≤ r ∧ r ≤ 57343)) → bad s p = false ∧ dc s p = (r, n)) := by
  rw [bad_iff, bad_false, dc_N]
  rcases h with ⟨rfl, rfl, rfl, hl, hu⟩ | ⟨rfl, rfl, rfl, hl, hu⟩ | ⟨rfl, rfl, rfl, hl, hu⟩
  · have c1 : contAt s p 1 := hc 1 (by omega) (by omega)
    have hr' : r = 64 * (bt s p - 192) + (bt s (p + 1) - 128) := hr
    unfold contAt at c1
    rw [lead_two hl hu hs c1, ← hr']
    exact ⟨fun hb => by exfalso; omega, fun _ => ⟨pair_ne (by omega), rfl⟩⟩
  · have c1 : contAt s p 1 := hc 1 (by omega) (by omega)
    have c2 : contAt s p 2 := hc 2 (by omega) (by omega)
    have hr' : r = 64 * (64 * (bt s p - 224) + (bt s (p + 1) - 128)) + (bt s (p + 2) - 128) := hr
    have k := lead_three (b3 := bt s (p + 3)) hl hu hs c1 c2 hr'
    exact ⟨k.1, fun hb => by rw [k.2 hb]; exact ⟨pair_ne (by omega), rfl⟩⟩
  · have c1 : contAt s p 1 := hc 1 (by omega) (by omega)
    have c2 : contAt s p 2 := hc 2 (by omega) (by omega)
    have c3 : contAt s p 3 := hc 3 (by omega) (by omega)
    have hr' : r = 64 * (64 * (64 * (bt s p - 240) + (bt s (p + 1) - 128)) + (bt s (p + 2) - 128)) + (bt s (p + 3) - 128) := hr
    have k := lead_four hl hu hs c1 c2 c3 hr'
    exact ⟨k.1, fun hb => by rw [k.2 hb]; exact ⟨pair_ne (by omega), rfl⟩⟩

theorem lead_none {s : ByteArray} {p : Nat} (h1 : 128 ≤ bt s p) (h2 : bt s p < 194 ∨ 245 ≤ bt s p) : bad s p = true := by
  rw [bad_iff, dc_N]
  have h3 := bt_lt s p
  exact decodeN_bad _ _ _ _ _ (by omega)
theorem lead_ascii {s : ByteArray} {p : Nat} (h : bt s p < 128) : bad s p = false ∧ dc s p = (bt s p, 1) := by
  have e : dc s p = (bt s p, 1) := by rw [dc_N]; unfold decodeN; rw [if_pos h]
  exact ⟨by rw [bad_false, e]; intro hx; injection hx with h1 h2; omega, e⟩

/-! ### the runes from a place on -/
def rnsF (s : ByteArray) : Nat → Nat → List Nat
  | 0, _ => []
  | f + 1, p => if p < s.size then (dc s p).1 :: rnsF s f (p + (dc s p).2) else []
def vlsF (s : ByteArray) : Nat → Nat → Bool
  | 0, _ => true
  | f + 1, p => if p < s.size then (if bad s p then false else vlsF s f (p + (dc s p).2)) else true
theorem rnsF_fuel (s : ByteArray) : ∀ f g p, s.size ≤ p + f → s.size ≤ p + g → rnsF s f p = rnsF s g p
  | 0, 0, _, _, _ => rfl
  | 0, g + 1, p, h, _ => by simp [rnsF, show ¬ p < s.size by omega]
  | f + 1, 0, p, _, h => by simp [rnsF, show ¬ p < s.size by omega]
  | f + 1, g + 1, p, h1, h2 => by
    have hw := dc_pos s p
    simp only [rnsF]
    rw [rnsF_fuel s f g _ (by omega) (by omega)]
theorem vlsF_fuel (s : ByteArray) : ∀ f g p, s.size ≤ p + f → s.size ≤ p + g → vlsF s f p = vlsF s g p
  | 0, 0, _, _, _ => rfl
  | 0, g + 1, p, h, _ => by simp [vlsF, show ¬ p < s.size by omega]
  | f + 1, 0, p, _, h => by simp [vlsF, show ¬ p < s.size by omega]
  | f + 1, g + 1, p, h1, h2 => by
    have hw := dc_pos s p
    simp only [vlsF]
    rw [vlsF_fuel s f g _ (by omega) (by omega)]
def rns (s : ByteArray) (p : Nat) : List Nat := rnsF s s.size p
def vls (s : ByteArray) (p : Nat) : Bool := vlsF s s.size p
theorem rns_end {s : ByteArray} {p : Nat} (h : ¬ p < s.size) : rns s p = [] := by
  unfold rns; cases s.size <;> simp_all [rnsF]
theorem vls_end {s : ByteArray} {p : Nat} (h : ¬ p < s.size) : vls s p = true := by
  unfold vls; cases s.size <;> simp_all [vlsF]
theorem rns_step {s : ByteArray} {p : Nat} (h : p < s.size) : rns s p = (dc s p).1 :: rns s (p + (dc s p).2) := by
  have hw := dc_pos s p
  unfold rns
  rw [rnsF_fuel s s.size (s.size + 1) p (by omega) (by omega)]
  simp only [rnsF, if_pos h]
theorem vls_step {s : ByteArray} {p : Nat} (h : p < s.size) : vls s p = if bad s p then false else vls s (p + (dc s p).2) := by
  have hw := dc_pos s p
  unfold vls
  rw [vlsF_fuel s s.size (s.size + 1) p (by omega) (by omega)]
  simp only [vlsF, if_pos h]
theorem vls_bad {s : ByteArray} {p : Nat} (h : p < s.size) (hb : bad s p = true) : vls s p = false := by rw [vls_step h, if_pos hb]
theorem vls_good {s : ByteArray} {p : Nat} (h : p < s.size) (hb : bad s p = false) : vls s p = vls s (p + (dc s p).2) := by rw [vls_step h, hb]; simp
theorem vls_head {s : ByteArray} {p : Nat} (h : p < s.size) (hv : vls s p = true) : bad s p = false ∧ vls s (p + (dc s p).2) = true := by
  rw [vls_step h] at hv
  split at hv
  · cases hv
  · exact ⟨by simp_all, hv⟩

theorem along (s : ByteArray) (Q : Nat → Prop) (hend : ∀ p, s.size ≤ p → Q p) (hstep : ∀ p, p < s.size → Q (p + (dc s p).2) → Q p) : ∀ p, Q p := by
  have key : ∀ f p, s.size ≤ p + f → Q p := by
    intro f
    induction f with
    | zero => intro p h; exact hend p (by omega)
    | succ f ih =>
      intro p h
      by_cases hp : p < s.size
      · have hw := dc_pos s p
        exact hstep p hp (ih _ (by omega))
      · exact hend p (by omega)
  intro p
  exact key s.size p (by omega)

theorem rns_len_le (s : ByteArray) : ∀ p, (rns s p).length ≤ s.size - p := by
  refine along s _ ?_ ?_
  · intro p h; rw [rns_end (by omega)]; simp
  · intro p h ih
    have hw := dc_pos s p
    rw [rns_step h, List.length_cons]
    omega
theorem dc_enc {s : ByteArray} {p : Nat} (h : p < s.size) (hb : bad s p = false) : encodeRune ((dc s p).1 : Int) = (s.data.toList.drop p).take (dc s p).2 := by
  have hne : s.data.toList.drop p ≠ [] := by
    intro he
    have := congrArg List.length he
    simp at this
    have h' : s.size = s.data.size := rfl
    omega
  have := encode_decode (s.data.toList.drop p) hne
  rw [decodeL_drop] at this
  refine this fun hx => ?_
  rw [bad_false] at hb
  exact hb (Prod.ext hx.1 hx.2)
end Go.Proofs.YthonaeigacfmbaaGreatDoor.B
namespace Go.Proofs.YthonaeigacfmbaaGreatDoor.B
open Go.Lib

def goF {σ α : Type} (s : ByteArray) (stop : σ → Nat → Option α) (next : σ → Nat → σ) (fin : σ → α) : Nat → σ → Nat → α
  | 0, st, _ => fin st
  | f + 1, st, p => if p < s.size then (match stop st p with | some a => a | none => goF s stop next fin f (next st p) (p + (dc s p).2)) else fin st
section
variable {σ α : Type} {s : ByteArray} {stop : σ → Nat → Option α} {next : σ → Nat → σ} {fin : σ → α}
theorem goF_end {f : Nat} {st : σ} {p : Nat} (h : ¬ p < s.size) : goF s stop next fin f st p = fin st := by
  cases f with
  | zero => rfl
  | succ f => simp only [goF, if_neg h]
theorem goF_fuel : ∀ (f g : Nat) (st : σ) (p : Nat), s.size ≤ p + f → s.size ≤ p + g → goF s stop next fin f st p = goF s stop next fin g st p
  | 0, g, st, p, h, _ => by rw [goF_end (by omega), goF_end (by omega)]
  | f + 1, 0, st, p, _, h => by rw [goF_end (by omega), goF_end (by omega)]
  | f + 1, g + 1, st, p, h1, h2 => by
    have hw := dc_pos s p
    simp only [goF]
    rw [goF_fuel f g (next st p) (p + (dc s p).2) (by omega) (by omega)]
end
def along_ {σ α : Type} (s : ByteArray) (stop : σ → Nat → Option α) (next : σ → Nat → σ) (fin : σ → α) (st : σ) (p : Nat) : α := goF s stop next fin s.size st p
section
variable {σ α : Type} {s : ByteArray} {stop : σ → Nat → Option α} {next : σ → Nat → σ} {fin : σ → α}
theorem along_end {st : σ} {p : Nat} (h : ¬ p < s.size) : along_ s stop next fin st p = fin st := goF_end h
theorem along_stop {st : σ} {p : Nat} {a : α} (h : p < s.size) (e : stop st p = some a) : along_ s stop next fin st p = a := by
  unfold along_
  rw [goF_fuel s.size (s.size + 1) st p (by omega) (by omega)]
  simp only [goF, if_pos h, e]
theorem along_next {st : σ} {p : Nat} (h : p < s.size) (e : stop st p = none) : along_ s stop next fin st p = along_ s stop next fin (next st p) (p + (dc s p).2) := by
  have hw := dc_pos s p
  unfold along_
  rw [goF_fuel s.size (s.size + 1) st p (by omega) (by omega)]
  simp only [goF, if_pos h, e]
end

def cls (r : Int) : Int :=
  if (65 ≤ r ∧ r ≤ 90) ∨ (97 ≤ r ∧ r ≤ 122) ∨ r = 95 then 1
  else if 48 ≤ r ∧ r ≤ 57 then 2
  else if r = 32 ∨ r = 9 ∨ r = 10 then 3
  else if 128 ≤ r ∧ r ≤ 1114111 ∧ r ≠ 65533 ∧ (r < 55296 ∨ 57343 < r) then 1
  else 0
theorem cls_is (r c : Int) (h : ((65 ≤ r ∧ r ≤ 90) ∨ (97 ≤ r ∧ r ≤ 122) ∨ r = 95) ∧ c = 1 ∨ (48 ≤ r ∧ r ≤ 57) ∧ c = 2 ∨ (r = 32 ∨ r = 9 ∨ r = 10) ∧ c = 3 ∨
    (128 ≤ r ∧ r ≤ 1114111 ∧ r ≠ 65533 ∧ (r < 55296 ∨ 57343 < r)) ∧ c = 1 ∨
    (¬ ((65 ≤ r ∧ r ≤ 90) ∨ (97 ≤ r ∧ r ≤ 122) ∨ r = 95) ∧ ¬ (48 ≤ r ∧ r ≤ 57) ∧ ¬ (r = 32 ∨ r = 9 ∨ r = 10) ∧ ¬ (128 ≤ r ∧ r ≤ 1114111 ∧ r ≠ 65533 ∧ (r < 55296 ∨ 57343 < r))) ∧ c = 0) : cls r = c := by
  unfold cls
  repeat' split
  all_goals omega
theorem cls_three (r : Int) : cls r = 3 ↔ (r = 32 ∨ r = 9 ∨ r = 10) := by
  unfold cls
  repeat' split
  all_goals omega
theorem cls_bad : cls 65533 = 0 := by decide

def rdb (r : Int) : Bool := !(decide (r = 65533 ∨ r = 127 ∨ (r < 32 ∧ r ≠ 9 ∧ r ≠ 10)))
theorem rdb_is (r : Int) (b : Bool) (h : b = true ↔ ¬ (r = 65533 ∨ r = 127 ∨ (r < 32 ∧ r ≠ 9 ∧ r ≠ 10))) : rdb r = b := by
  unfold rdb
  rw [Bool.eq_iff_iff, h, Bool.not_eq_true', decide_eq_false_iff_not]
theorem dc_bad1 {s : ByteArray} {p : Nat} (h : bad s p = true) : (dc s p).1 = 65533 := by
  rw [bad_iff] at h; rw [h]
def ck (s : ByteArray) (p : Nat) : Int × Int := along_ s (fun (_ : Unit) p => if rdb (dc s p).1 then none else some ((p : Int), (4 : Int))) (fun u _ => u) (fun _ => (0, 0)) () p
theorem ck_end {s : ByteArray} {p : Nat} (h : ¬ p < s.size) : ck s p = (0, 0) := along_end h
theorem ck_stop {s : ByteArray} {p : Nat} (h : p < s.size) (e : rdb (dc s p).1 = false) : ck s p = ((p : Int), 4) := along_stop h (by simp [e])
theorem ck_next {s : ByteArray} {p : Nat} (h : p < s.size) (e : rdb (dc s p).1 = true) : ck s p = ck s (p + (dc s p).2) := along_next h (by simp [e])

def mst (r : Int) (first : Bool) : Bool := decide (cls r = 1) || (decide (cls r = 2 ∨ r = 39) && !first)
def nmF (s : ByteArray) (p : Nat) : Bool := along_ s (fun (_ : Unit) p => if mst (dc s p).1 (decide (p = 0)) then none else some false) (fun u _ => u) (fun _ => true) () p
theorem nm_end {s : ByteArray} {p : Nat} (h : ¬ p < s.size) : nmF s p = true := along_end h
theorem nm_stop {s : ByteArray} {p : Nat} (h : p < s.size) (e : mst (dc s p).1 (decide (p = 0)) = false) : nmF s p = false := along_stop h (by simp [e])
theorem nm_next {s : ByteArray} {p : Nat} (h : p < s.size) (e : mst (dc s p).1 (decide (p = 0)) = true) : nmF s p = nmF s (p + (dc s p).2) := along_next h (by simp [e])
def nmL : List Nat → Bool
  | [] => true
  | r :: t => mst r true && t.all fun (x : Nat) => mst x false
theorem nm_bad (s : ByteArray) : ∀ p, vls s p = false → nmF s p = false := by
  refine along s _ ?_ ?_
  · intro p h hv
    rw [vls_end (by omega)] at hv
    cases hv
  · intro p h ih hv
    cases hb : bad s p
    · rw [vls_good h hb] at hv
      cases hm : mst (dc s p).1 (decide (p = 0))
      · exact nm_stop h hm
      · rw [nm_next h hm]; exact ih hv
    · refine nm_stop h ?_
      rw [dc_bad1 hb]
      unfold mst
      rw [show ((65533 : Nat) : Int) = 65533 from rfl, cls_bad]
      rfl
theorem nm_rest (s : ByteArray) : ∀ p, 0 < p → nmF s p = (rns s p).all fun (x : Nat) => mst x false := by
  refine along s _ ?_ ?_
  · intro p h _
    rw [nm_end (by omega), rns_end (by omega)]
    rfl
  · intro p h ih hp
    have hw := dc_pos s p
    have e0 : decide (p = 0) = false := by simp; omega
    rw [rns_step h, List.all_cons, ← ih (by omega)]
    cases hm : mst (dc s p).1 false
    · rw [Bool.false_and]
      exact nm_stop h (by rw [e0]; exact hm)
    · rw [Bool.true_and]
      exact nm_next h (by rw [e0]; exact hm)
theorem nm_list (s : ByteArray) : nmF s 0 = nmL (rns s 0) := by
  by_cases h : 0 < s.size
  · have hw := dc_pos s 0
    rw [rns_step h]
    show _ = (mst (dc s 0).1 true && _)
    rw [← nm_rest s _ (by omega)]
    cases hm : mst (dc s 0).1 true
    · rw [Bool.false_and]
      exact nm_stop h (by simpa using hm)
    · rw [Bool.true_and]
      exact nm_next h (by simpa using hm)
  · rw [nm_end h, rns_end h]
    rfl
def nm (s : ByteArray) : Bool := decide (1 ≤ s.size ∧ s.size ≤ 32) && nmF s 0
theorem nm_size {s : ByteArray} (h : ¬ (1 ≤ s.size ∧ s.size ≤ 32)) : nm s = false := by simp [nm, h]
theorem nm_of {s : ByteArray} (h : 1 ≤ s.size ∧ s.size ≤ 32) : nm s = nmF s 0 := by simp [nm, h]

def bhd (st : Int × Int) (r : Nat) : Int × Int := if r = 10 then (st.1 + 1, 1) else (st.1, st.2 + 1)
def pl (s : ByteArray) (at_ : Int) (st : Int × Int) (p : Nat) : Int × Int :=
  along_ s (fun (st : Int × Int) p => if at_ < (p + (dc s p).2 : Nat) then some st else none) (fun st p => bhd st (dc s p).1) (fun st => st) st p
end Go.Proofs.YthonaeigacfmbaaGreatDoor.B
namespace Go.Proofs.YthonaeigacfmbaaGreatDoor.B
open Go.Lib

/-! ### written again -/
theorem dc_valid {s : ByteArray} {p : Nat} (hb : bad s p = false) : (dc s p).1 < 55296 ∨ (57343 < (dc s p).1 ∧ (dc s p).1 ≤ 1114111) := by
  rw [bad_false, dc_N] at hb
  rw [dc_N]
  have k0 := bt_lt s p
  have k1 := bt_lt s (p + 1)
  have k2 := bt_lt s (p + 2)
  have k3 := bt_lt s (p + 3)
  rcases decodeN_shape (s.size - p) (bt s p) (bt s (p + 1)) (bt s (p + 2)) (bt s (p + 3)) with ⟨c, e⟩ | ⟨c1, c2, c3, cv, e⟩ | ⟨c1, c2, c3, c4, cv, cs, e⟩ | ⟨c1, c2, c3, c4, c5, cv, cw, e⟩ | e
  all_goals (rw [e] at hb ⊢; dsimp only)
  all_goals (try (exact absurd rfl hb))
  all_goals omega
theorem byteZ (z : Int) (n : Nat) (h : z = (n : Int)) : z.toNat.toUInt8 = UInt8.ofNat n := by
  subst h
  rfl
theorem ext_size (s : ByteArray) (a b : Nat) : (s.extract a b).size = min (b - a) (s.size - a) := by
  rw [size_eq, extract_data, List.length_take, List.length_drop, ← size_eq]

/-! ### cut -/
theorem get_out (s : ByteArray) (p : Nat) (h : ¬ p < s.size) : bt s p = 0 := by
  unfold bt
  simp [ByteArray.get!, getElem!_neg, h]
  rfl
theorem bt_list (s : ByteArray) (p : Nat) : bt s p = (s.data.toList.getD p 0).toNat := by
  by_cases h : p < s.size
  · rw [← bt_get s p h]
    have h' : p < s.data.toList.length := by rw [← size_eq]; exact h
    rw [List.getD_eq_getElem?_getD, List.getElem?_eq_getElem h']
    rfl
  · rw [get_out s p h, List.getD_eq_getElem?_getD, List.getElem?_eq_none (by rw [← size_eq]; omega)]
    rfl
theorem bt_suf (s : ByteArray) (c q : Nat) : bt (s.extract c s.size) q = bt s (c + q) := by
  rw [bt_list, bt_list, extract_data]
  simp only [List.getD_eq_getElem?_getD, List.getElem?_take, List.getElem?_drop]
  by_cases h : q < s.size - c
  · rw [if_pos h]
  · rw [if_neg h, List.getElem?_eq_none (by rw [← size_eq]; omega)]
theorem dc_suf (s : ByteArray) (c q : Nat) : dc (s.extract c s.size) q = dc s (c + q) := by
  rw [dc_N, dc_N, bt_suf, bt_suf, bt_suf, bt_suf, ext_size]
  rw [show min (s.size - c) (s.size - c) - q = s.size - (c + q) by omega, show c + (q + 1) = c + q + 1 by omega, show c + (q + 2) = c + q + 2 by omega, show c + (q + 3) = c + q + 3 by omega]
/-! ### the place of each byte -/
end Go.Proofs.YthonaeigacfmbaaGreatDoor.B
namespace Go.Proofs.YthonaeigacfmbaaGreatDoor.B
open Go.Lib

def ok (r : Nat) : Prop := r < 55296 ∨ (57343 < r ∧ r ≤ 1114111)
def okl (l : List Nat) : Prop := ∀ r ∈ l, ok r
def en (r : Nat) : List UInt8 := encodeRune (r : Int)
def enc : List Nat → List UInt8
  | [] => []
  | r :: t => en r ++ enc t
def T (l : List Nat) : ByteArray := ⟨(enc l).toArray⟩
def wd (r : Nat) : Nat := (en r).length
def sz (l : List Nat) : Nat := (enc l).length
theorem okl_nil : okl [] := fun _ h => by cases h
theorem okl_cons {r : Nat} {t : List Nat} : okl (r :: t) ↔ ok r ∧ okl t := by
  unfold okl; simp
theorem okl_app {a b : List Nat} : okl (a ++ b) ↔ okl a ∧ okl b := by
  unfold okl
  simp only [List.mem_append]
  exact ⟨fun h => ⟨fun r hr => h r (.inl hr), fun r hr => h r (.inr hr)⟩, fun h r hr => hr.elim (h.1 r) (h.2 r)⟩
theorem okl_sub {a b : List Nat} (h : okl b) (hs : ∀ r ∈ a, r ∈ b) : okl a := fun r hr => h r (hs r hr)
theorem okl_drop {l : List Nat} (h : okl l) (n : Nat) : okl (l.drop n) := okl_sub h fun _ hr => List.mem_of_mem_drop hr

theorem enc_app (a b : List Nat) : enc (a ++ b) = enc a ++ enc b := by
  induction a with
  | nil => rfl
  | cons r t ih => simp only [List.cons_append, enc, ih, List.append_assoc]
theorem T_list (l : List Nat) : (T l).data.toList = enc l := rfl
theorem T_size (l : List Nat) : (T l).size = sz l := by rw [size_eq, T_list]; rfl
theorem sz_app (a b : List Nat) : sz (a ++ b) = sz a + sz b := by unfold sz; rw [enc_app, List.length_append]
theorem sz_nil : sz [] = 0 := rfl
theorem sz_cons (r : Nat) (t : List Nat) : sz (r :: t) = wd r + sz t := by unfold sz wd; simp only [enc, List.length_append]
theorem wd_pos (r : Nat) : 1 ≤ wd r ∧ wd r ≤ 4 := by
  have := encodeRuneZ_length (r : Int)
  unfold wd en encodeRune
  rw [List.length_map]
  exact this
theorem sz_len (l : List Nat) : l.length ≤ sz l := by
  induction l with
  | nil => simp
  | cons r t ih =>
    have := (wd_pos r).1
    rw [sz_cons, List.length_cons]
    omega
theorem ba_ext {s t : ByteArray} (h : s.data.toList = t.data.toList) : s = t := by
  apply ByteArray.ext
  exact Array.ext' h
theorem T_suf (a b : List Nat) : (T (a ++ b)).extract (sz a) (sz (a ++ b)) = T b := by
  apply ba_ext
  rw [extract_data, T_list, T_list, enc_app, sz_app]
  unfold sz
  rw [List.drop_left, Nat.add_sub_cancel_left, List.take_length]
theorem T_pre (a b : List Nat) : (T (a ++ b)).extract 0 (sz a) = T a := by
  apply ba_ext
  rw [extract_data, T_list, T_list, enc_app]
  unfold sz
  rw [List.drop_zero, Nat.sub_zero, List.take_left]
theorem wd_ascii {r : Nat} (h : r < 128) : wd r = 1 ∧ en r = [UInt8.ofNat r] := by
  have e : en r = [UInt8.ofNat r] := by
    unfold en encodeRune
    rw [encodeRuneZ_one (by omega) (by omega)]
    rfl
  exact ⟨by unfold wd; rw [e]; rfl, e⟩
theorem u8n (n : Nat) (h : n < 256) : (UInt8.ofNat n).toNat = n := by simp [UInt8.toNat_ofNat']; omega

theorem en_is {r : Nat} (h : ok r) :
    (r < 128 ∧ en r = [UInt8.ofNat r]) ∨ (128 ≤ r ∧ r < 2048 ∧ en r = [UInt8.ofNat (192 + r / 64), UInt8.ofNat (128 + r % 64)]) ∨
    (2048 ≤ r ∧ r < 65536 ∧ en r = [UInt8.ofNat (224 + r / 4096), UInt8.ofNat (128 + r / 64 % 64), UInt8.ofNat (128 + r % 64)]) ∨
    (65536 ≤ r ∧ en r = [UInt8.ofNat (240 + r / 262144), UInt8.ofNat (128 + r / 4096 % 64), UInt8.ofNat (128 + r / 64 % 64), UInt8.ofNat (128 + r % 64)]) := by
  unfold ok at h
  unfold en encodeRune
  by_cases h1 : r < 128
  · rw [encodeRuneZ_one (by omega) (by omega)]
    exact .inl ⟨h1, rfl⟩
  by_cases h2 : r < 2048
  · rw [encodeRuneZ_two (by omega) (by omega)]
    simp only [List.map_cons, List.map_nil]
    rw [byteZ _ (192 + r / 64) (by omega), byteZ _ (128 + r % 64) (by omega)]
    exact .inr (.inl ⟨by omega, h2, rfl⟩)
  by_cases h3 : r < 65536
  · rw [encodeRuneZ_three (by omega)]
    simp only [List.map_cons, List.map_nil]
    rw [byteZ _ (224 + r / 4096) (by omega), byteZ _ (128 + r / 64 % 64) (by omega), byteZ _ (128 + r % 64) (by omega)]
    exact .inr (.inr (.inl ⟨by omega, h3, rfl⟩))
  · rw [encodeRuneZ_four (by omega) (by omega)]
    simp only [List.map_cons, List.map_nil]
    rw [byteZ _ (240 + r / 262144) (by omega), byteZ _ (128 + r / 4096 % 64) (by omega), byteZ _ (128 + r / 64 % 64) (by omega), byteZ _ (128 + r % 64) (by omega)]
    exact .inr (.inr (.inr ⟨by omega, rfl⟩))

set_option maxHeartbeats 4000000 in
theorem dc_T0 {r : Nat} (h : ok r) (b : List Nat) : dc (T (r :: b)) 0 = (r, wd r) := by
  have hz : (T (r :: b)).size = wd r + sz b := by rw [T_size, sz_cons]
  have hok := h
  unfold ok at hok
  rw [dc_N]
  simp only [bt_list, T_list, enc, Nat.zero_add, Nat.sub_zero]
  rw [hz]
  unfold wd
  rcases en_is h with ⟨h1, e⟩ | ⟨h1, h2, e⟩ | ⟨h1, h2, e⟩ | ⟨h1, e⟩
  · rw [e]
    simp only [List.cons_append, List.nil_append, List.getD_cons_zero, List.length_cons, List.length_nil]
    rw [u8n _ (by omega)]
    unfold decodeN
    rw [if_pos h1]
  · rw [e]
    simp only [List.cons_append, List.nil_append, List.getD_cons_zero, List.getD_cons_succ, List.length_cons, List.length_nil]
    rw [u8n _ (by omega), u8n _ (by omega)]
    generalize ((enc b).getD 0 0).toNat = x2
    generalize ((enc b).getD 1 0).toNat = x3
    unfold decodeN
    rw [if_neg (by omega), if_pos ⟨by omega, by omega, by omega⟩, if_pos (by omega)]
    exact Prod.ext (by dsimp only; omega) rfl
  · rw [e]
    simp only [List.cons_append, List.nil_append, List.getD_cons_zero, List.getD_cons_succ, List.length_cons, List.length_nil]
    rw [u8n _ (by omega), u8n _ (by omega), u8n _ (by omega)]
    generalize ((enc b).getD 0 0).toNat = x3
    unfold decodeN
    rw [if_neg (by omega), if_neg (by omega), if_pos ⟨by omega, ⟨by omega, by omega⟩, by omega, by omega⟩, if_pos ⟨by omega, by omega⟩]
    exact Prod.ext (by dsimp only; omega) rfl
  · rw [e]
    simp only [List.cons_append, List.nil_append, List.getD_cons_zero, List.getD_cons_succ, List.length_cons, List.length_nil]
    rw [u8n _ (by omega), u8n _ (by omega), u8n _ (by omega), u8n _ (by omega)]
    unfold decodeN
    rw [if_neg (by omega), if_neg (by omega), if_neg (by omega), if_pos ⟨by omega, ⟨by omega, by omega⟩, ⟨by omega, by omega⟩, by omega, by omega⟩, if_pos ⟨by omega, by omega⟩]
    exact Prod.ext (by dsimp only; omega) rfl

theorem dc_T (a : List Nat) {r : Nat} (h : ok r) (b : List Nat) : dc (T (a ++ r :: b)) (sz a) = (r, wd r) := by
  have e := dc_suf (T (a ++ r :: b)) (sz a) 0
  rw [Nat.add_zero, T_size, T_suf, dc_T0 h] at e
  exact e.symm
theorem bad_T (a : List Nat) {r : Nat} (h : ok r) (b : List Nat) : bad (T (a ++ r :: b)) (sz a) = false := by
  rw [bad_false, dc_T a h b]
  intro e
  injection e with e1 e2
  subst e1
  exact absurd e2 (by decide)
theorem rns_Ta (b : List Nat) : ∀ a : List Nat, okl b → rns (T (a ++ b)) (sz a) = b ∧ vls (T (a ++ b)) (sz a) = true := by
  induction b with
  | nil =>
    intro a _
    rw [List.append_nil, rns_end (by rw [T_size]; omega), vls_end (by rw [T_size]; omega)]
    exact ⟨rfl, rfl⟩
  | cons r t ih =>
    intro a h
    obtain ⟨h1, h2⟩ := okl_cons.1 h
    have hw := wd_pos r
    have hlt : sz a < (T (a ++ r :: t)).size := by rw [T_size, sz_app, sz_cons]; omega
    have e : a ++ r :: t = (a ++ [r]) ++ t := by simp
    have es : sz a + wd r = sz (a ++ [r]) := by rw [sz_app, sz_cons, sz_nil]; omega
    have k := ih (a ++ [r]) h2
    rw [← e, ← es] at k
    rw [rns_step hlt, vls_good hlt (bad_T a h1 t), dc_T a h1 t, k.1, k.2]
    exact ⟨rfl, rfl⟩
theorem rns_T {l : List Nat} (h : okl l) : rns (T l) 0 = l := (rns_Ta l [] h).1
theorem T_inj {a b : List Nat} (ha : okl a) (hb : okl b) (h : T a = T b) : a = b := by
  rw [← rns_T ha, ← rns_T hb, h]

theorem rns_enc (s : ByteArray) : ∀ p, vls s p = true → enc (rns s p) = s.data.toList.drop p ∧ okl (rns s p) := by
  refine along s _ ?_ ?_
  · intro p h _
    rw [rns_end (by omega), List.drop_eq_nil_of_le (by rw [← size_eq]; omega)]
    exact ⟨rfl, okl_nil⟩
  · intro p h ih hv
    obtain ⟨hb, hv'⟩ := vls_head h hv
    obtain ⟨k1, k2⟩ := ih hv'
    rw [rns_step h]
    refine ⟨?_, okl_cons.2 ⟨dc_valid hb, k2⟩⟩
    show encodeRune ((dc s p).1 : Int) ++ enc (rns s (p + (dc s p).2)) = _
    rw [k1, dc_enc h hb]
    rw [← List.drop_drop]
    exact List.take_append_drop _ _
theorem T_rns {s : ByteArray} (h : vls s 0 = true) : T (rns s 0) = s := by
  apply ba_ext
  rw [T_list, (rns_enc s 0 h).1, List.drop_zero]
theorem rns_okl {s : ByteArray} (h : vls s 0 = true) : okl (rns s 0) := (rns_enc s 0 h).2

/-! ### plain signs at a text's head -/
def u8 (l : List Nat) : List UInt8 := l.map UInt8.ofNat
theorem en_head {r : Nat} (h : ok r) (hr : 128 ≤ r) : ∃ x t, en r = x :: t ∧ 128 ≤ x.toNat := by
  unfold ok at h
  rcases en_is h with ⟨h1, e⟩ | ⟨h1, h2, e⟩ | ⟨h1, h2, e⟩ | ⟨h1, e⟩
  · omega
  all_goals exact ⟨_, _, e, by rw [u8n _ (by omega)]; omega⟩
theorem isPrefixOf_cons {α : Type} [BEq α] (a b : α) (s t : List α) : (a :: s).isPrefixOf (b :: t) = (a == b && s.isPrefixOf t) := rfl
theorem pre_T {p l : List Nat} (hp : ∀ x ∈ p, x < 128) (h : okl l) : hasPrefix (enc l) (u8 p) = p.isPrefixOf l := by
  unfold hasPrefix
  induction p generalizing l with
  | nil => cases l <;> simp [u8]
  | cons x p ih =>
    have hx : x < 128 := hp x (by simp)
    cases l with
    | nil => simp [u8, enc]
    | cons r t =>
      obtain ⟨h1, h2⟩ := okl_cons.1 h
      have e1 : u8 (x :: p) = UInt8.ofNat x :: u8 p := rfl
      rw [e1, isPrefixOf_cons]
      show List.isPrefixOf _ (en r ++ enc t) = _
      by_cases hr : r < 128
      · rw [(wd_ascii hr).2]
        show (UInt8.ofNat x == UInt8.ofNat r && List.isPrefixOf (u8 p) (enc t)) = _
        rw [ih (fun y hy => hp y (by simp [hy])) h2]
        congr 1
        rw [Bool.eq_iff_iff, beq_iff_eq, beq_iff_eq]
        constructor
        · intro e
          have := congrArg UInt8.toNat e
          rw [u8n _ (by omega), u8n _ (by omega)] at this
          exact this
        · intro e; rw [e]
      · obtain ⟨y, u, e, hy⟩ := en_head h1 (by omega)
        rw [e]
        show (UInt8.ofNat x == y && _) = _
        have e2 : (UInt8.ofNat x == y) = false := by
          rw [beq_eq_false_iff_ne]
          intro e
          rw [← e, u8n _ (by omega)] at hy
          omega
        have e3 : (x == r) = false := by rw [beq_eq_false_iff_ne]; omega
        rw [e2, e3, Bool.false_and, Bool.false_and]
theorem enc_ascii {l : List Nat} (h : ∀ x ∈ l, x < 128) : enc l = u8 l := by
  induction l with
  | nil => rfl
  | cons r t ih =>
    show en r ++ enc t = UInt8.ofNat r :: u8 t
    rw [(wd_ascii (h r (by simp))).2, ih (fun x hx => h x (by simp [hx]))]
    rfl
theorem sz_ascii {l : List Nat} (h : ∀ x ∈ l, x < 128) : sz l = l.length := by
  unfold sz; rw [enc_ascii h]; simp [u8]
theorem ok_ascii {l : List Nat} (h : ∀ x ∈ l, x < 128) : okl l := fun r hr => .inl (by have := h r hr; omega)
end Go.Proofs.YthonaeigacfmbaaGreatDoor.B
