/-
  Plain facts, without the program: a text out of its runes. 'T l': the runes l as UTF-8; 'sz l': its bytes; 'ok r': r is a rune that may stand in a text.
-/
import Derived.Test.YtagocfifagnpkaaDoorUtfC
namespace Go.Proofs.YtagocfifagnpkaaDoor
open Go.Lib

def ok (r : Nat) : Prop := r < 55296 ∨ (57343 < r ∧ r ≤ 1114111)
def okl (l : List Nat) : Prop := ∀ r ∈ l, ok r
def en (r : Nat) : List UInt8 := encodeRune (r : Int)
def enc : List Nat → List UInt8
  | [] => []
  | r :: t => en r ++ enc t
def T (l : List Nat) : ByteArray := ⟨(enc l).toArray⟩
def wd (r : Nat) : Nat := (en r).length
def sz (l : List Nat) : Nat := (enc l).length
theorem okl_nil : okl [] := fun _ h => by cases h
theorem okl_cons {r : Nat} {t : List Nat} : okl (r :: t) ↔ ok r ∧ okl t := by
  unfold okl; simp
theorem okl_app {a b : List Nat} : okl (a ++ b) ↔ okl a ∧ okl b := by
  unfold okl
  simp only [List.mem_append]
  exact ⟨fun h => ⟨fun r hr => h r (.inl hr), fun r hr => h r (.inr hr)⟩, fun h r hr => hr.elim (h.1 r) (h.2 r)⟩
theorem okl_sub {a b : List Nat} (h : okl b) (hs : ∀ r ∈ a, r ∈ b) : okl a := fun r hr => h r (hs r hr)
theorem okl_take {l : List Nat} (h : okl l) (n : Nat) : okl (l.take n) := okl_sub h fun _ hr => List.mem_of_mem_take hr
theorem okl_drop {l : List Nat} (h : okl l) (n : Nat) : okl (l.drop n) := okl_sub h fun _ hr => List.mem_of_mem_drop hr

theorem enc_app (a b : List Nat) : enc (a ++ b) = enc a ++ enc b := by
  induction a with
  | nil => rfl
  | cons r t ih => simp only [List.cons_append, enc, ih, List.append_assoc]
theorem T_list (l : List Nat) : (T l).data.toList = enc l := rfl
theorem T_size (l : List Nat) : (T l).size = sz l := by rw [size_eq, T_list]; rfl
theorem sz_app (a b : List Nat) : sz (a ++ b) = sz a + sz b := by unfold sz; rw [enc_app, List.length_append]
theorem sz_nil : sz [] = 0 := rfl
theorem sz_cons (r : Nat) (t : List Nat) : sz (r :: t) = wd r + sz t := by unfold sz wd; simp only [enc, List.length_append]
theorem wd_pos (r : Nat) : 1 ≤ wd r ∧ wd r ≤ 4 := by
  have := encodeRuneZ_length (r : Int)
  unfold wd en encodeRune
  rw [List.length_map]
  exact this
theorem sz_len (l : List Nat) : l.length ≤ sz l := by
  induction l with
  | nil => simp
  | cons r t ih =>
    have := (wd_pos r).1
    rw [sz_cons, List.length_cons]
    omega
theorem ba_ext {s t : ByteArray} (h : s.data.toList = t.data.toList) : s = t := by
  apply ByteArray.ext
  exact Array.ext' h
theorem T_app (a b : List Nat) : T (a ++ b) = T a ++ T b := by
  apply ba_ext
  rw [ByteArray.data_append, Array.toList_append, T_list, T_list, T_list, enc_app]
theorem T_suf (a b : List Nat) : (T (a ++ b)).extract (sz a) (sz (a ++ b)) = T b := by
  apply ba_ext
  rw [extract_data, T_list, T_list, enc_app, sz_app]
  unfold sz
  rw [List.drop_left, Nat.add_sub_cancel_left, List.take_length]
theorem T_pre (a b : List Nat) : (T (a ++ b)).extract 0 (sz a) = T a := by
  apply ba_ext
  rw [extract_data, T_list, T_list, enc_app]
  unfold sz
  rw [List.drop_zero, Nat.sub_zero, List.take_left]
theorem T_nil : T [] = ⟨#[]⟩ := rfl
theorem wd_ascii {r : Nat} (h : r < 128) : wd r = 1 ∧ en r = [UInt8.ofNat r] := by
  have e : en r = [UInt8.ofNat r] := by
    unfold en encodeRune
    rw [encodeRuneZ_one (by omega) (by omega)]
    rfl
  exact ⟨by unfold wd; rw [e]; rfl, e⟩
theorem u8n (n : Nat) (h : n < 256) : (UInt8.ofNat n).toNat = n := by simp [UInt8.toNat_ofNat']; omega

theorem en_is {r : Nat} (h : ok r) :
    (r < 128 ∧ en r = [UInt8.ofNat r]) ∨ (128 ≤ r ∧ r < 2048 ∧ en r = [UInt8.ofNat (192 + r / 64), UInt8.ofNat (128 + r % 64)]) ∨
    (2048 ≤ r ∧ r < 65536 ∧ en r = [UInt8.ofNat (224 + r / 4096), UInt8.ofNat (128 + r / 64 % 64), UInt8.ofNat (128 + r % 64)]) ∨
    (65536 ≤ r ∧ en r = [UInt8.ofNat (240 + r / 262144), UInt8.ofNat (128 + r / 4096 % 64), UInt8.ofNat (128 + r / 64 % 64), UInt8.ofNat (128 + r % 64)]) := by
  unfold ok at h
  unfold en encodeRune
  by_cases h1 : r < 128
  · rw [encodeRuneZ_one (by omega) (by omega)]
    exact .inl ⟨h1, rfl⟩
  by_cases h2 : r < 2048
  · rw [encodeRuneZ_two (by omega) (by omega)]
    simp only [List.map_cons, List.map_nil]
    rw [byteZ _ (192 + r / 64) (by omega), byteZ _ (128 + r % 64) (by omega)]
    exact .inr (.inl ⟨by omega, h2, rfl⟩)
  by_cases h3 : r < 65536
  · rw [encodeRuneZ_three (by omega)]
    simp only [List.map_cons, List.map_nil]
    rw [byteZ _ (224 + r / 4096) (by omega), byteZ _ (128 + r / 64 % 64) (by omega), byteZ _ (128 + r % 64) (by omega)]
    exact .inr (.inr (.inl ⟨by omega, h3, rfl⟩))
  · rw [encodeRuneZ_four (by omega) (by omega)]
    simp only [List.map_cons, List.map_nil]
    rw [byteZ _ (240 + r / 262144) (by omega), byteZ _ (128 + r / 4096 % 64) (by omega), byteZ _ (128 + r / 64 % 64) (by omega), byteZ _ (128 + r % 64) (by omega)]
    exact .inr (.inr (.inr ⟨by omega, rfl⟩))

set_option maxHeartbeats 4000000 in
theorem dc_T0 {r : Nat} (h : ok r) (b : List Nat) : dc (T (r :: b)) 0 = (r, wd r) := by
  have hz : (T (r :: b)).size = wd r + sz b := by rw [T_size, sz_cons]
  have hok := h
  unfold ok at hok
  rw [dc_N]
  simp only [bt_list, T_list, enc, Nat.zero_add, Nat.sub_zero]
  rw [hz]
  unfold wd
  rcases en_is h with ⟨h1, e⟩ | ⟨h1, h2, e⟩ | ⟨h1, h2, e⟩ | ⟨h1, e⟩
  · rw [e]
    simp only [List.cons_append, List.nil_append, List.getD_cons_zero, List.length_cons, List.length_nil]
    rw [u8n _ (by omega)]
    unfold decodeN
    rw [if_pos h1]
  · rw [e]
    simp only [List.cons_append, List.nil_append, List.getD_cons_zero, List.getD_cons_succ, List.length_cons, List.length_nil]
    rw [u8n _ (by omega), u8n _ (by omega)]
    generalize ((enc b).getD 0 0).toNat = x2
    generalize ((enc b).getD 1 0).toNat = x3
    unfold decodeN
    rw [if_neg (by omega), if_pos ⟨by omega, by omega, by omega⟩, if_pos (by omega)]
    exact Prod.ext (by dsimp only; omega) rfl
  · rw [e]
    simp only [List.cons_append, List.nil_append, List.getD_cons_zero, List.getD_cons_succ, List.length_cons, List.length_nil]
    rw [u8n _ (by omega), u8n _ (by omega), u8n _ (by omega)]
    generalize ((enc b).getD 0 0).toNat = x3
    unfold decodeN
    rw [if_neg (by omega), if_neg (by omega), if_pos ⟨by omega, ⟨by omega, by omega⟩, by omega, by omega⟩, if_pos ⟨by omega, by omega⟩]
    exact Prod.ext (by dsimp only; omega) rfl
  · rw [e]
    simp only [List.cons_append, List.nil_append, List.getD_cons_zero, List.getD_cons_succ, List.length_cons, List.length_nil]
    rw [u8n _ (by omega), u8n _ (by omega), u8n _ (by omega), u8n _ (by omega)]
    unfold decodeN
    rw [if_neg (by omega), if_neg (by omega), if_neg (by omega), if_pos ⟨by omega, ⟨by omega, by omega⟩, ⟨by omega, by omega⟩, by omega, by omega⟩, if_pos ⟨by omega, by omega⟩]
    exact Prod.ext (by dsimp only; omega) rfl

theorem dc_T (a : List Nat) {r : Nat} (h : ok r) (b : List Nat) : dc (T (a ++ r :: b)) (sz a) = (r, wd r) := by
  have e := dc_suf (T (a ++ r :: b)) (sz a) 0
  rw [Nat.add_zero, T_size, T_suf, dc_T0 h] at e
  exact e.symm
theorem bad_T (a : List Nat) {r : Nat} (h : ok r) (b : List Nat) : bad (T (a ++ r :: b)) (sz a) = false := by
  rw [bad_false, dc_T a h b]
  intro e
  injection e with e1 e2
  subst e1
  exact absurd e2 (by decide)
theorem rns_Ta (b : List Nat) : ∀ a : List Nat, okl b → rns (T (a ++ b)) (sz a) = b ∧ vls (T (a ++ b)) (sz a) = true := by
  induction b with
  | nil =>
    intro a _
    rw [List.append_nil, rns_end (by rw [T_size]; omega), vls_end (by rw [T_size]; omega)]
    exact ⟨rfl, rfl⟩
  | cons r t ih =>
    intro a h
    obtain ⟨h1, h2⟩ := okl_cons.1 h
    have hw := wd_pos r
    have hlt : sz a < (T (a ++ r :: t)).size := by rw [T_size, sz_app, sz_cons]; omega
    have e : a ++ r :: t = (a ++ [r]) ++ t := by simp
    have es : sz a + wd r = sz (a ++ [r]) := by rw [sz_app, sz_cons, sz_nil]; omega
    have k := ih (a ++ [r]) h2
    rw [← e, ← es] at k
    rw [rns_step hlt, vls_good hlt (bad_T a h1 t), dc_T a h1 t, k.1, k.2]
    exact ⟨rfl, rfl⟩
theorem rns_T {l : List Nat} (h : okl l) : rns (T l) 0 = l := (rns_Ta l [] h).1
theorem vls_T {l : List Nat} (h : okl l) : vls (T l) 0 = true := (rns_Ta l [] h).2
theorem T_inj {a b : List Nat} (ha : okl a) (hb : okl b) (h : T a = T b) : a = b := by
  rw [← rns_T ha, ← rns_T hb, h]

theorem rns_enc (s : ByteArray) : ∀ p, vls s p = true → enc (rns s p) = s.data.toList.drop p ∧ okl (rns s p) := by
  refine along s _ ?_ ?_
  · intro p h _
    rw [rns_end (by omega), List.drop_eq_nil_of_le (by rw [← size_eq]; omega)]
    exact ⟨rfl, okl_nil⟩
  · intro p h ih hv
    obtain ⟨hb, hv'⟩ := vls_head h hv
    obtain ⟨k1, k2⟩ := ih hv'
    rw [rns_step h]
    refine ⟨?_, okl_cons.2 ⟨dc_valid hb, k2⟩⟩
    show encodeRune ((dc s p).1 : Int) ++ enc (rns s (p + (dc s p).2)) = _
    rw [k1, dc_enc h hb]
    rw [← List.drop_drop]
    exact List.take_append_drop _ _
theorem T_rns {s : ByteArray} (h : vls s 0 = true) : T (rns s 0) = s := by
  apply ba_ext
  rw [T_list, (rns_enc s 0 h).1, List.drop_zero]
theorem rns_okl {s : ByteArray} (h : vls s 0 = true) : okl (rns s 0) := (rns_enc s 0 h).2

/-! ### plain signs at a text's head -/
def u8 (l : List Nat) : List UInt8 := l.map UInt8.ofNat
theorem en_head {r : Nat} (h : ok r) (hr : 128 ≤ r) : ∃ x t, en r = x :: t ∧ 128 ≤ x.toNat := by
  unfold ok at h
  rcases en_is h with ⟨h1, e⟩ | ⟨h1, h2, e⟩ | ⟨h1, h2, e⟩ | ⟨h1, e⟩
  · omega
  all_goals exact ⟨_, _, e, by rw [u8n _ (by omega)]; omega⟩
theorem isPrefixOf_cons {α : Type} [BEq α] (a b : α) (s t : List α) : (a :: s).isPrefixOf (b :: t) = (a == b && s.isPrefixOf t) := rfl
theorem pre_T {p l : List Nat} (hp : ∀ x ∈ p, x < 128) (h : okl l) : hasPrefix (enc l) (u8 p) = p.isPrefixOf l := by
  unfold hasPrefix
  induction p generalizing l with
  | nil => cases l <;> simp [u8]
  | cons x p ih =>
    have hx : x < 128 := hp x (by simp)
    cases l with
    | nil => simp [u8, enc]
    | cons r t =>
      obtain ⟨h1, h2⟩ := okl_cons.1 h
      have e1 : u8 (x :: p) = UInt8.ofNat x :: u8 p := rfl
      rw [e1, isPrefixOf_cons]
      show List.isPrefixOf _ (en r ++ enc t) = _
      by_cases hr : r < 128
      · rw [(wd_ascii hr).2]
        show (UInt8.ofNat x == UInt8.ofNat r && List.isPrefixOf (u8 p) (enc t)) = _
        rw [ih (fun y hy => hp y (by simp [hy])) h2]
        congr 1
        rw [Bool.eq_iff_iff, beq_iff_eq, beq_iff_eq]
        constructor
        · intro e
          have := congrArg UInt8.toNat e
          rw [u8n _ (by omega), u8n _ (by omega)] at this
          exact this
        · intro e; rw [e]
      · obtain ⟨y, u, e, hy⟩ := en_head h1 (by omega)
        rw [e]
        show (UInt8.ofNat x == y && _) = _
        have e2 : (UInt8.ofNat x == y) = false := by
          rw [beq_eq_false_iff_ne]
          intro e
          rw [← e, u8n _ (by omega)] at hy
          omega
        have e3 : (x == r) = false := by rw [beq_eq_false_iff_ne]; omega
        rw [e2, e3, Bool.false_and, Bool.false_and]
theorem enc_ascii {l : List Nat} (h : ∀ x ∈ l, x < 128) : enc l = u8 l := by
  induction l with
  | nil => rfl
  | cons r t ih =>
    show en r ++ enc t = UInt8.ofNat r :: u8 t
    rw [(wd_ascii (h r (by simp))).2, ih (fun x hx => h x (by simp [hx]))]
    rfl
theorem sz_ascii {l : List Nat} (h : ∀ x ∈ l, x < 128) : sz l = l.length := by
  unfold sz; rw [enc_ascii h]; simp [u8]
theorem ok_ascii {l : List Nat} (h : ∀ x ∈ l, x < 128) : okl l := fun r hr => .inl (by have := h r hr; omega)
end Go.Proofs.YtagocfifagnpkaaDoor
