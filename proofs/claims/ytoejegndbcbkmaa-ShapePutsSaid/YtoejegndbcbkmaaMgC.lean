/-
  Plain facts, without the program: numbers written in digits, and read.
-/
import Derived.Test.YtoejegndbcbkmaaMgB
import Derived.Lib.CountLaws
import Derived.Lib.IndexBytes
import Derived.Lib.ItoaLen
import Derived.Lib.Replace
namespace Go.Proofs.Ytoejegndbcbkmaa.B
open Go.Lib


theorem dec_digit (u : Nat) : ∀ b ∈ decDigits u, 48 ≤ b.toNat ∧ b.toNat ≤ 57 := by
  induction u using Nat.strongRecOn with
  | _ u ih =>
    intro b hb
    rw [decDigits] at hb
    split at hb
    · simp only [List.mem_singleton] at hb
      rw [hb, u8n _ (by omega)]
      omega
    · rw [List.mem_append] at hb
      rcases hb with hb | hb
      · exact ih (u / 10) (by omega) b hb
      · simp only [List.mem_singleton] at hb
        rw [hb, u8n _ (by omega)]
        omega
theorem dgs_digit (u : Nat) : ∀ r ∈ dgs u, 48 ≤ r ∧ r ≤ 57 := by
  intro r hr
  obtain ⟨b, hb, rfl⟩ := List.mem_map.1 hr
  exact dec_digit u b hb
theorem u8_toNat (l : List UInt8) : u8 (l.map UInt8.toNat) = l := by
  unfold u8
  rw [List.map_map]
  conv => rhs; rw [← List.map_id l]
  refine List.map_congr_left fun b _ => ?_
  simp
theorem enc_dgs (u : Nat) : enc (dgs u) = decDigits u := by
  rw [enc_ascii (fun r hr => by have := dgs_digit u r hr; omega)]
  exact u8_toNat _
theorem numb_ascii (n : Int) : ∀ r ∈ numb n, r < 128 := by
  intro r hr
  unfold numb at hr
  split at hr
  · rcases List.mem_cons.1 hr with rfl | hr
    · omega
    · have := dgs_digit _ r hr; omega
  · have := dgs_digit _ r hr; omega
theorem enc_numb (n : Int) : enc (numb n) = if n < 0 then 126 :: decDigits n.natAbs else decDigits n.toNat := by
  unfold numb
  split
  · show en 126 ++ enc (dgs _) = _
    rw [enc_dgs]
    rfl
  · exact enc_dgs _
theorem no45 {d : List UInt8} (h : ∀ b ∈ d, 48 ≤ b.toNat ∧ b.toNat ≤ 57) : index d [45] = -1 := by
  rw [index_one]
  induction d with
  | nil => rfl
  | cons b t ih =>
    have hb := h b (by simp)
    have hne : (b == 45) = false := by
      rw [beq_eq_false_iff_ne]
      rintro rfl
      exact absurd hb (by decide)
    unfold indexByte
    rw [hne, ih (fun x hx => h x (by simp [hx]))]
    rfl
theorem count45 {d : List UInt8} (h : ∀ b ∈ d, 48 ≤ b.toNat ∧ b.toNat ≤ 57) : count d [45] = 0 := count_miss (no45 h)
theorem index45 (d : List UInt8) : index (45 :: d) [45] = 0 := by
  unfold index
  simp
theorem count45c {d : List UInt8} (h : ∀ b ∈ d, 48 ≤ b.toNat ∧ b.toNat ≤ 57) : count (45 :: d) [45] = 1 := by
  rw [count_hit (i := 0) (by simp) (index45 d)]
  show 1 + count d [45] = 1
  rw [count45 h]
theorem rep_pos {d : List UInt8} (h : ∀ b ∈ d, 48 ≤ b.toNat ∧ b.toNat ≤ 57) : replace d [45] [126] 1 = d := by
  have e : replaceNum d [45] 1 = 0 := by
    unfold replaceNum
    rw [count45 h]
    rfl
  unfold replace
  rw [e]
  rfl
theorem rep_neg {d : List UInt8} (h : ∀ b ∈ d, 48 ≤ b.toNat ∧ b.toNat ≤ 57) : replace (45 :: d) [45] [126] 1 = 126 :: d := by
  have e : replaceNum (45 :: d) [45] 1 = 1 := by
    unfold replaceNum
    rw [count45c h]
    rfl
  unfold replace
  rw [e, if_neg (by decide), replaceK_hit _ _ _ _ 0 (index45 d)]
  rfl
theorem rep_itoa (n : Int) : replace (itoa n) [45] [126] 1 = enc (numb n) := by
  rw [enc_numb]
  unfold itoa
  split
  · exact rep_neg (dec_digit _)
  · exact rep_pos (dec_digit _)
theorem count_itoa (n : Int) : count (itoa n) [45] ≤ 1 := by
  unfold itoa
  split
  · rw [count45c (dec_digit _)]; exact Nat.le_refl _
  · rw [count45 (dec_digit _)]; omega
/-! ### no two numbers have the same digits -/
def dval (l : List UInt8) : Nat := l.foldl (fun a b => 10 * a + (b.toNat - 48)) 0
theorem dval_snoc (l : List UInt8) (b : UInt8) : dval (l ++ [b]) = 10 * dval l + (b.toNat - 48) := by unfold dval; rw [List.foldl_append]; rfl
theorem dval_dec (u : Nat) : dval (decDigits u) = u := by
  induction u using Nat.strongRecOn with
  | _ u ih =>
    rw [decDigits]
    split
    · show 10 * 0 + ((UInt8.ofNat (48 + u)).toNat - 48) = u
      rw [u8n _ (by omega)]
      omega
    · rw [dval_snoc, ih (u / 10) (by omega), u8n _ (by omega)]
      omega
theorem dec_inj {u v : Nat} (h : decDigits u = decDigits v) : u = v := by rw [← dval_dec u, h, dval_dec]
theorem dec_mono (u : Nat) : ∀ v, u ≤ v → (decDigits u).length ≤ (decDigits v).length := by
  induction u using Nat.strongRecOn with
  | _ u ih =>
    intro v hv
    rw [decDigits]
    split
    · rw [decDigits]
      split
      · simp
      · simp
    · rw [decDigits.eq_1 v, dif_neg (by omega)]
      have := ih (u / 10) (by omega) (v / 10) (Nat.div_le_div_right hv)
      simp only [List.length_append, List.length_singleton]
      omega
end Go.Proofs.Ytoejegndbcbkmaa.B
/-
  Plain definitions, without the program: what layer 3 tells: names, long names, their pieces, what is joined, moved, and free.
-/
namespace Go.Proofs.Ytoejegndbcbkmaa.B
open Go.Lib

def tx (l : List UInt8) : ByteArray := ⟨l.toArray⟩
theorem tx_list (l : List UInt8) : (tx l).data.toList = l := rfl
theorem tx_of (s : ByteArray) : tx s.data.toList = s := ba_ext rfl
theorem tx_size (l : List UInt8) : (tx l).size = l.length := by rw [size_eq]; rfl
theorem app_list (s t : ByteArray) : (s ++ t).data.toList = s.data.toList ++ t.data.toList := by rw [ByteArray.data_append, Array.toList_append]
theorem tx_app (a b : List UInt8) : tx (a ++ b) = tx a ++ tx b := ba_ext (by rw [app_list, tx_list, tx_list, tx_list])
theorem tx_inj {a b : List UInt8} (h : tx a = tx b) : a = b := by rw [← tx_list a, h, tx_list]
theorem app_size (s t : ByteArray) : (s ++ t).size = s.size + t.size := by rw [size_eq, app_list, List.length_append, ← size_eq, ← size_eq]
theorem T_tx (l : List Nat) : T l = tx (enc l) := rfl
theorem size_nil {s : ByteArray} (h : s.size = 0) : s = ⟨#[]⟩ := ba_ext (List.eq_nil_of_length_eq_zero (by rw [← size_eq]; exact h))

/-! ### a name -/
def nck (s : ByteArray) : Bool := nm s && !wrd s
theorem nck_nm {s : ByteArray} (h : nck s = true) : nm s = true ∧ wrd s = false := by
  unfold nck at h; simpa using h
theorem nck_runes {s : ByteArray} (h : nm s = true) : (1 ≤ s.size ∧ s.size ≤ 32) ∧ okl (rns s 0) ∧ T (rns s 0) = s ∧ nmL (rns s 0) = true := by
  unfold nm at h
  rw [Bool.and_eq_true, decide_eq_true_iff] at h
  obtain ⟨h1, h2⟩ := h
  have hv : vls s 0 = true := by
    cases hv : vls s 0
    · rw [nm_bad s 0 hv] at h2; cases h2
    · rfl
  exact ⟨h1, rns_okl hv, T_rns hv, by rw [← nm_list]; exact h2⟩
theorem nck_size {s : ByteArray} (h : nck s = true) : 1 ≤ s.size ∧ s.size ≤ 32 := (nck_runes (nck_nm h).1).1
theorem mst_46 (b : Bool) : mst 46 b = false := by cases b <;> decide
theorem nmL_all {l : List Nat} (h : nmL l = true) : ∀ r ∈ l, ∃ b, mst (r : Int) b = true := by
  cases l with
  | nil => intro r hr; cases hr
  | cons x t =>
    unfold nmL at h
    rw [Bool.and_eq_true, List.all_eq_true] at h
    intro r hr
    rcases List.mem_cons.1 hr with rfl | hr
    · exact ⟨true, h.1⟩
    · exact ⟨false, h.2 r hr⟩
theorem nck_dot {s : ByteArray} (h : nck s = true) : (46 : UInt8) ∉ s.data.toList := by
  obtain ⟨_, h2, h3, h4⟩ := nck_runes (nck_nm h).1
  intro hm
  rw [← h3, T_list] at hm
  obtain ⟨b, hb⟩ := nmL_all h4 46 (mem_enc (c := 46) h2 (by omega) hm)
  rw [show ((46 : Nat) : Int) = 46 from rfl, mst_46] at hb
  cases hb
theorem words_nodigit : ∀ x ∈ WORDS, ∀ r ∈ x, r < 128 ∧ ¬ (48 ≤ r ∧ r ≤ 57) := by decide
theorem mst_digit {r : Nat} (h : 48 ≤ r ∧ r ≤ 57) : mst (r : Int) false = true := by
  unfold mst cls
  rw [if_neg (by omega), if_pos (by omega)]
  rfl
theorem dgs_ne (k : Nat) : dgs k ≠ [] := by
  unfold dgs
  rw [decDigits]
  split <;> simp
/-- A name with digits behind it is a name, if it isn't too long. -/
theorem nck_num {s : ByteArray} (h : nck s = true) (k : Nat) : nck (s ++ tx (decDigits k)) = decide ((s ++ tx (decDigits k)).size ≤ 32) := by
  obtain ⟨h1, h2, h3, h4⟩ := nck_runes (nck_nm h).1
  have he : s ++ tx (decDigits k) = T (rns s 0 ++ dgs k) := by
    rw [T_app, h3, T_tx (dgs k), enc_dgs]
  have ho : okl (rns s 0 ++ dgs k) := okl_app.2 ⟨h2, ok_ascii fun r hr => by have := dgs_digit k r hr; omega⟩
  have hne : rns s 0 ≠ [] := by
    intro e
    rw [e] at h3
    rw [← h3] at h1
    exact absurd h1.1 (by decide)
  have hL : nmL (rns s 0 ++ dgs k) = true := by
    cases hl : rns s 0 with
    | nil => exact absurd hl hne
    | cons x t =>
      rw [hl] at h4
      unfold nmL at h4
      show (mst x true && (t ++ dgs k).all fun (y : Nat) => mst y false) = true
      rw [Bool.and_eq_true] at h4
      rw [List.all_append, h4.1, h4.2, Bool.true_and, Bool.true_and, List.all_eq_true]
      exact fun r hr => mst_digit (dgs_digit k r hr)
  have hw : wrd (s ++ tx (decDigits k)) = false := by
    rw [he]
    unfold wrd
    rw [List.any_eq_false]
    intro x hx
    rw [decide_eq_true_iff]
    intro e
    have hx2 := words_nodigit x hx
    have := T_inj ho (ok_ascii fun r hr => (hx2 r hr).1) e
    obtain ⟨r, hr⟩ := List.exists_mem_of_ne_nil _ (dgs_ne k)
    exact (hx2 r (by rw [← this]; exact List.mem_append_right _ hr)).2 (dgs_digit k r hr)
  have hn : nmF (s ++ tx (decDigits k)) 0 = true := by rw [nm_list, he, rns_T ho]; exact hL
  have hs : 1 ≤ (s ++ tx (decDigits k)).size := by rw [app_size]; omega
  unfold nck nm
  rw [hw, hn, Bool.and_true, Bool.not_false, Bool.and_true]
  by_cases h32 : (s ++ tx (decDigits k)).size ≤ 32
  · rw [decide_eq_true ⟨hs, h32⟩, decide_eq_true h32]
  · rw [decide_eq_false (fun c => h32 c.2), decide_eq_false h32]

/-! ### long names -/
def pc (s : ByteArray) : List ByteArray := (pcl s.data.toList).map tx
def jb (l : List ByteArray) : ByteArray := tx (jn (l.map fun x => x.data.toList))
def long (s : ByteArray) : Bool := decide (s.size ≤ 128) && (pc s).all nck
def splt (s : ByteArray) : List ByteArray := if long s then pc s else []
theorem map_tx (l : List (List UInt8)) : (l.map tx).map (fun x => x.data.toList) = l := by
  rw [List.map_map]
  conv => rhs; rw [← List.map_id l]
  rfl
theorem jb_pc (s : ByteArray) : jb (pc s) = s := by
  unfold jb pc
  rw [map_tx, jn_pcl, tx_of]
theorem pc_ne (s : ByteArray) : pc s ≠ [] := by
  unfold pc
  intro h
  exact pcl_ne _ (List.map_eq_nil_iff.1 h)
theorem pc_jb {l : List ByteArray} (h : l ≠ []) (hn : l.all nck = true) : pc (jb l) = l := by
  unfold pc jb
  rw [tx_list, pcl_jn (by simpa using h) (by
    intro x hx
    obtain ⟨y, hy, rfl⟩ := List.mem_map.1 hx
    exact nck_dot ((List.all_eq_true.1 hn) y hy)), List.map_map]
  conv => rhs; rw [← List.map_id l]
  exact List.map_congr_left fun x _ => tx_of x
theorem long_is {s : ByteArray} : long s = true ↔ s.size ≤ 128 ∧ (pc s).all nck = true := by
  unfold long; rw [Bool.and_eq_true, decide_eq_true_iff]
theorem splt_long {s : ByteArray} (h : long s = true) : splt s = pc s := by unfold splt; rw [if_pos h]
theorem splt_not {s : ByteArray} (h : long s = false) : splt s = [] := by unfold splt; rw [h]; rfl
theorem splt_len (s : ByteArray) : long s = decide (0 < (splt s).length) := by
  cases h : long s
  · rw [splt_not h]; rfl
  · rw [splt_long h]
    have := pc_ne s
    cases hp : pc s with
    | nil => exact absurd hp this
    | cons a b => simp
theorem pc_len (s : ByteArray) : 1 ≤ (pc s).length ∧ (pc s).length ≤ s.size + 1 := by
  unfold pc
  rw [List.length_map, size_eq]
  exact pcl_len _
theorem pc_sz (s : ByteArray) : ∀ x ∈ pc s, x.size ≤ s.size := by
  intro x hx
  obtain ⟨y, hy, rfl⟩ := List.mem_map.1 hx
  rw [tx_size, size_eq]
  exact pcl_sz _ y hy
theorem pc_nodot (s : ByteArray) : ∀ x ∈ pc s, (46 : UInt8) ∉ x.data.toList := by
  intro x hx
  obtain ⟨y, hy, rfl⟩ := List.mem_map.1 hx
  exact pcl_nodot _ y hy
theorem splt_count (s : ByteArray) : (splt s).length ≤ 129 := by
  unfold splt
  split
  · rename_i h
    have h1 := (long_is.1 h).1
    have := (pc_len s).2
    omega
  · simp
theorem splt_sz (s : ByteArray) : ∀ x ∈ splt s, x.size ≤ 128 := by
  intro x hx
  unfold splt at hx
  split at hx
  · rename_i h
    have := pc_sz s x hx
    have := (long_is.1 h).1
    omega
  · cases hx
theorem long_jb {l : List ByteArray} (h : l ≠ []) (hn : l.all nck = true) : long (jb l) = decide ((jb l).size ≤ 128) := by
  unfold long
  rw [pc_jb h hn, hn, Bool.and_true]

/-! ### the first name, and the rest -/
def hd (s : ByteArray) : ByteArray := (splt s).headD ⟨#[]⟩
def rst (s : ByteArray) : ByteArray := if (splt s).length < 2 then ⟨#[]⟩ else jb ((splt s).drop 1)
theorem jb_one (x : ByteArray) : jb [x] = x := by unfold jb; rw [List.map_cons, List.map_nil, jn_one, tx_of]
theorem jb_cons {x : ByteArray} {r : List ByteArray} (h : r ≠ []) : jb (x :: r) = x ++ tx [46] ++ jb r := by
  unfold jb
  rw [List.map_cons, jn_cons (by simpa using h)]
  apply ba_ext
  rw [app_list, app_list, tx_list, tx_list, tx_list]
  simp
theorem jb_ne {l : List ByteArray} (h : l ≠ []) (hn : l.all nck = true) : 1 ≤ (jb l).size := by
  cases l with
  | nil => exact absurd rfl h
  | cons x r =>
    have hx := nck_size ((List.all_eq_true.1 hn) x (by simp))
    by_cases hr : r = []
    · subst hr; rw [jb_one]; omega
    · rw [jb_cons hr, app_size, app_size]; omega
/-- A long name with one name: its head is it. -/
theorem long_one {s x : ByteArray} (h : long s = true) (hp : pc s = [x]) : hd s = s ∧ rst s = ⟨#[]⟩ := by
  have e := jb_pc s
  rw [hp, jb_one] at e
  unfold hd rst
  rw [splt_long h, hp]
  exact ⟨e, rfl⟩
theorem long_more {s x y : ByteArray} {r : List ByteArray} (h : long s = true) (hp : pc s = x :: y :: r) : hd s = x ∧ rst s = jb (y :: r) ∧ s = x ++ tx [46] ++ jb (y :: r) := by
  have e := jb_pc s
  rw [hp, jb_cons (by simp)] at e
  unfold hd rst
  rw [splt_long h, hp]
  exact ⟨rfl, rfl, e.symm⟩

/-! ### joined -/
def joR (l : List ByteArray) : ByteArray × Int := if l ≠ [] ∧ l.all nck = true ∧ (jb l).size ≤ 128 then (jb l, 0) else (⟨#[]⟩, 2)
theorem jo_yes {l : List ByteArray} (h1 : l ≠ []) (h2 : l.all nck = true) (h3 : (jb l).size ≤ 128) : joR l = (jb l, 0) := by unfold joR; rw [if_pos ⟨h1, h2, h3⟩]
theorem jo_no {l : List ByteArray} (h : l = [] ∨ l.all nck = false ∨ ¬ (jb l).size ≤ 128) : joR l = (⟨#[]⟩, 2) := by
  unfold joR
  rw [if_neg]
  rintro ⟨h1, h2, h3⟩
  rcases h with h | h | h
  · exact h1 h
  · rw [h] at h2; cases h2
  · exact h h3
theorem jo_back {s : ByteArray} (h : long s = true) : joR (splt s) = (s, 0) := by
  obtain ⟨h1, h2⟩ := long_is.1 h
  rw [splt_long h, jo_yes (pc_ne s) h2 (by rw [jb_pc]; exact h1), jb_pc]

/-! ### under, and moved -/
def und (s p : ByteArray) : Bool := long s && long p && decide (pc p <+: pc s)
def mvR (s f t : ByteArray) : ByteArray × Int :=
  if und s f && long t then (if (jb (pc t ++ (pc s).drop (pc f).length)).size ≤ 128 then (jb (pc t ++ (pc s).drop (pc f).length), 0) else (⟨#[]⟩, 3)) else (⟨#[]⟩, 2)
theorem und_is {s p : ByteArray} : und s p = true ↔ long s = true ∧ long p = true ∧ pc p <+: pc s := by
  unfold und
  rw [Bool.and_eq_true, Bool.and_eq_true, decide_eq_true_iff, and_assoc]
theorem map_prefix {p s : List ByteArray} : p.map (fun x => x.data.toList) <+: s.map (fun x => x.data.toList) ↔ p <+: s := by
  constructor
  · rintro ⟨t, ht⟩
    refine ⟨t.map tx, ?_⟩
    have := congrArg (List.map tx) ht
    rw [List.map_append, List.map_map, List.map_map] at this
    have e : ∀ l : List ByteArray, l.map (tx ∘ fun x => x.data.toList) = l := by
      intro l
      conv => rhs; rw [← List.map_id l]
      exact List.map_congr_left fun x _ => tx_of x
    rw [e, e] at this
    exact this
  · rintro ⟨t, rfl⟩
    rw [List.map_append]
    exact List.prefix_append _ _
theorem jn_pc (s : ByteArray) : jn ((pc s).map fun x => x.data.toList) = s.data.toList := by
  have := congrArg (fun x => x.data.toList) (jb_pc s)
  exact this
/-- Pieces lie at the head just if the text does, and a dot, or nothing, follows. -/
theorem und_text {s p : ByteArray} : (∃ t, s.data.toList = p.data.toList ++ t ∧ (t = [] ∨ ∃ u, t = 46 :: u)) ↔ pc p <+: pc s := by
  have h := pre_pieces ((pc p).map fun x => x.data.toList) ((pc s).map fun x => x.data.toList) (by simpa using pc_ne p) (by simpa using pc_ne s)
    (by intro x hx; obtain ⟨y, hy, rfl⟩ := List.mem_map.1 hx; exact pc_nodot p y hy) (by intro x hx; obtain ⟨y, hy, rfl⟩ := List.mem_map.1 hx; exact pc_nodot s y hy)
  rw [jn_pc, jn_pc, map_prefix] at h
  exact h
theorem move_text {s f t : ByteArray} (h : pc f <+: pc s) : jb (pc t ++ (pc s).drop (pc f).length) = t ++ tx (s.data.toList.drop f.size) := by
  have e := jn_move (a := (pc t).map fun x => x.data.toList) (p := (pc f).map fun x => x.data.toList) (s := (pc s).map fun x => x.data.toList) (by simpa using pc_ne t) (by simpa using pc_ne f) (map_prefix.2 h)
  rw [jn_pc, jn_pc, jn_pc, List.length_map] at e
  unfold jb
  rw [List.map_append, List.map_drop, e, tx_app, tx_of, size_eq]
theorem mv_no {s f t : ByteArray} (h : und s f = false ∨ long t = false) : mvR s f t = (⟨#[]⟩, 2) := by
  unfold mvR
  rw [if_neg]
  rw [Bool.and_eq_true]
  rintro ⟨h1, h2⟩
  rcases h with h | h
  · rw [h] at h1; cases h1
  · rw [h] at h2; cases h2
theorem mv_yes {s f t : ByteArray} (h : und s f = true) (ht : long t = true) {X : ByteArray} (hX : jb (pc t ++ (pc s).drop (pc f).length) = X) : mvR s f t = if X.size ≤ 128 then (X, 0) else (⟨#[]⟩, 3) := by
  unfold mvR
  rw [h, ht, hX]
  rfl
/-- Moved, and back. -/
theorem mv_back {s f t m : ByteArray} (h : mvR s f t = (m, 0)) : und m t = true ∧ mvR m t f = (s, 0) := by
  cases hu : und s f
  · rw [mv_no (.inl hu)] at h; cases h
  · cases ht : long t
    · rw [mv_no (.inr ht)] at h; cases h
    · obtain ⟨hs, hf, r, hr⟩ := und_is.1 hu
      rw [mv_yes hu ht rfl, ← hr, List.drop_left] at h
      have hrn : r.all nck = true := by
        have := (long_is.1 hs).2
        rw [← hr, List.all_append, Bool.and_eq_true] at this
        exact this.2
      have htn := (long_is.1 ht).2
      have hfn := (long_is.1 hf).2
      split at h
      · rename_i hz
        injection h with h _
        have hne : pc t ++ r ≠ [] := by simp [pc_ne t]
        have hall : (pc t ++ r).all nck = true := by rw [List.all_append, htn, hrn]; rfl
        have hpm : pc m = pc t ++ r := by rw [← h]; exact pc_jb hne hall
        have hlm : long m = true := long_is.2 ⟨by rw [← h]; exact hz, by rw [hpm]; exact hall⟩
        have hum : und m t = true := und_is.2 ⟨hlm, ht, r, hpm.symm⟩
        refine ⟨hum, ?_⟩
        have e : jb (pc f ++ (pc m).drop (pc t).length) = s := by rw [hpm, List.drop_left, hr, jb_pc]
        rw [mv_yes hum hf e, if_pos (long_is.1 hs).1]
      · injection h with _ h
        exact absurd h (by decide)

/-! ### a name that is not taken -/
def frk (base : ByteArray) (k : Nat) : ByteArray := if k = 0 then base else base ++ tx (decDigits k)
theorem frk_inj {base : ByteArray} {i j : Nat} (h : frk base i = frk base j) : i = j := by
  have key : ∀ k, k ≠ 0 → base ≠ base ++ tx (decDigits k) := by
    intro k _ e
    have := congrArg ByteArray.size e
    rw [app_size, tx_size] at this
    have h1 : (decDigits k).length ≠ 0 := by
      intro h0
      exact dgs_ne k (by unfold dgs; rw [List.eq_nil_of_length_eq_zero h0]; rfl)
    omega
  unfold frk at h
  split at h
  · split at h
    · omega
    · rename_i h2; exact absurd h (key j h2)
  · split at h
    · rename_i h2 _; exact absurd h.symm (key i h2)
    · have e := congrArg (fun x => x.data.toList) h
      simp only [app_list, tx_list] at e
      exact dec_inj (List.append_cancel_left e)
theorem pigeon {α : Type} [DecidableEq α] (f : Nat → α) (hf : ∀ i j, f i = f j → i = j) : ∀ (k : Nat) (l : List α), (∀ j, j < k → f j ∈ l) → k ≤ l.length
  | 0, _, _ => Nat.zero_le _
  | k + 1, l, h => by
    have h1 := pigeon f hf k (l.erase (f k)) fun j hj => by
      refine (List.mem_erase_of_ne fun e => ?_).2 (h j (by omega))
      have := hf _ _ e
      omega
    have h2 := List.length_erase_of_mem (h k (by omega))
    have h3 := List.length_pos_of_mem (h k (by omega))
    omega
/-- The k-th text is the first that is free. -/
def IsFree (base : ByteArray) (taken : List ByteArray) (k : Nat) : Prop := (∀ j, j < k → frk base j ∈ taken) ∧ frk base k ∉ taken
theorem free_one {base : ByteArray} {taken : List ByteArray} {i j : Nat} (hi : IsFree base taken i) (hj : IsFree base taken j) : i = j := by
  rcases Nat.lt_trichotomy i j with h | h | h
  · exact absurd (hj.1 i h) hi.2
  · exact h
  · exact absurd (hi.1 j h) hj.2
theorem free_some (base : ByteArray) (taken : List ByteArray) : ∃ k, IsFree base taken k := by
  have : ∀ n, (∃ k, k < n ∧ IsFree base taken k) ∨ ∀ j, j < n → frk base j ∈ taken := by
    intro n
    induction n with
    | zero => exact .inr fun j hj => absurd hj (Nat.not_lt_zero _)
    | succ n ih =>
      rcases ih with ⟨k, h1, h2⟩ | h
      · exact .inl ⟨k, by omega, h2⟩
      · by_cases hm : frk base n ∈ taken
        · refine .inr fun j hj => ?_
          by_cases e : j = n
          · rw [e]; exact hm
          · exact h j (by omega)
        · exact .inl ⟨n, by omega, h, hm⟩
  rcases this (taken.length + 1) with ⟨k, _, h⟩ | h
  · exact ⟨k, h⟩
  · have := pigeon (frk base) (fun _ _ => frk_inj) _ _ h
    omega
noncomputable def fre (base : ByteArray) (taken : List ByteArray) : Nat := (free_some base taken).choose
theorem fre_is (base : ByteArray) (taken : List ByteArray) : IsFree base taken (fre base taken) := (free_some base taken).choose_spec
theorem fre_eq {base : ByteArray} {taken : List ByteArray} {k : Nat} (h : IsFree base taken k) : fre base taken = k := free_one (fre_is _ _) h
noncomputable def frR (base : ByteArray) (taken : List ByteArray) : ByteArray × Int :=
  if nck base then (if nck (frk base (fre base taken)) then (frk base (fre base taken), 0) else (⟨#[]⟩, 3)) else (⟨#[]⟩, 2)
theorem fr_no {base : ByteArray} {taken : List ByteArray} (h : nck base = false) : frR base taken = (⟨#[]⟩, 2) := by unfold frR; rw [h]; rfl
theorem fr_yes {base : ByteArray} {taken : List ByteArray} (h : nck base = true) {k : Nat} (hk : IsFree base taken k) : frR base taken = if nck (frk base k) then (frk base k, 0) else (⟨#[]⟩, 3) := by
  unfold frR; rw [h, if_pos rfl, fre_eq hk]
theorem frk_down {base : ByteArray} (h : nck base = true) {i j : Nat} (hij : i ≤ j) (hj : nck (frk base j) = true) : nck (frk base i) = true := by
  unfold frk at hj ⊢
  by_cases hi : i = 0
  · rw [if_pos hi]; exact h
  · rw [if_neg (by omega)] at hj
    rw [if_neg hi, nck_num h, decide_eq_true_iff, app_size, tx_size]
    have h1 := (nck_size hj).2
    rw [app_size, tx_size] at h1
    have := dec_mono i j hij
    omega
/-- The document stops at the first text that is too long: the free one is too long, too. -/
theorem fr_long {base : ByteArray} {taken : List ByteArray} (h : nck base = true) {k : Nat} (hk : ∀ j, j < k → frk base j ∈ taken) (hn : nck (frk base k) = false) : frR base taken = (⟨#[]⟩, 3) := by
  have hf := fre_is base taken
  have hle : k ≤ fre base taken := by
    rcases Nat.lt_or_ge (fre base taken) k with h1 | h1
    · exact absurd (hk _ h1) hf.2
    · exact h1
  rw [fr_yes h hf]
  cases hc : nck (frk base (fre base taken))
  · rfl
  · rw [frk_down h hle hc] at hn; cases hn
theorem fr_few {base : ByteArray} {taken : List ByteArray} {k : Nat} (hk : ∀ j, j < k → frk base j ∈ taken) : k ≤ taken.length := pigeon (frk base) (fun _ _ => frk_inj) _ _ hk
end Go.Proofs.Ytoejegndbcbkmaa.B
