/-
  The document's layer 2: inner, head, text, comment: what they tell.
-/
import Derived.Test.YteennkekpblccaaGreatDoorRefN
import Derived.Laws.Cover4
namespace Go.Proofs.YteennkekpblccaaGreatDoor
open Go.RowKit

set_option maxHeartbeats 1600000 in
set_option maxRecDepth 100000 in
theorem inner_any (n : Nat) (w : World) : Calls Tryz.prog 57 #[.int .i32 (n : Int)] w fun e w' => e = .returned (.bool (inr n)) ∧ w = w' := by
  obtain ⟨c, hc⟩ : ∃ c, inr n = c := ⟨_, rfl⟩
  have cC : ∀ W, Calls Tryz.prog 22 #[.int .i32 (n : Int)] W _ := fun W => refClass (n : Int) W
  obtain ⟨k, hk⟩ : ∃ k, cls (n : Int) = k := ⟨_, rfl⟩
  have hin : decide (k = 1 ∨ k = 2 ∨ (n : Int) = 39) = c := by
    rw [← hc, ← hk]
    unfold inr
    rw [decide_eq_decide]
    omega
  rw [hk] at cC
  rw [hc]
  have HC := Lib.hid hin
  clear hc hk hin
  obtain ⟨r, hr⟩ : ∃ r : Int, (n : Int) = r := ⟨_, rfl⟩
  rw [hr] at cC HC ⊢
  clear hr
  go_enter Tryz.func57, Tryz.ntmps57
  go_wp2_with (go_at_call 22; refine (cC _).mono ?_; rintro e w' ⟨rfl, rfl⟩)
  all_goals go_ret
  all_goals
    refine ⟨ret_b (HC.out.symm.trans ?_), rfl⟩
    first
      | (rw [decide_eq_true_iff]; omega)
      | (rw [Bool.eq_iff_iff]; simp only [decide_eq_true_iff, Bool.or_eq_true, beq_iff_eq]; omega)

def IntSame (n : Nat) (W : World) (e : Ending) (w' : World) : Prop := e = .returned (.int .i64 (n : Int)) ∧ W = w'
theorem int_same {n : Nat} {z : Int} {W : World} (h : z = (n : Int)) : IntSame n W (.returned (.int .i64 z)) W := ⟨by rw [h], rfl⟩
theorem cnt_at {f : Nat → Bool} {l : List Nat} {i r : Nat} (h : l[i]? = some r) : cnt f (l.drop i) = if f r then cnt f (l.drop (i + 1)) + 1 else 0 := by
  have hi : i < l.length := (List.getElem?_eq_some_iff.1 h).1
  have hr := (List.getElem?_eq_some_iff.1 h).2
  rw [List.drop_eq_getElem_cons hi, hr]
  rfl

set_option maxHeartbeats 1600000 in
set_option maxRecDepth 100000 in
theorem head_any (v : Value) (l : List Nat) (B i : Nat) (w : World) (h : Sl w B v l) (hi : i ≤ l.length) (hl : l.length ≤ 1000000) :
    Calls Tryz.prog 54 #[v, .int .i64 (i : Int)] w (IntSame (cnt inr (l.drop i)) w) := by
  obtain ⟨A, c, rfl, hlc, hA⟩ := h
  have HA := Lib.hid hA
  obtain ⟨ANS, hans⟩ : ∃ n, cnt inr (l.drop i) = n := ⟨_, rfl⟩
  rw [hans]
  have HANS := Lib.hid hans
  obtain ⟨n, hn⟩ : ∃ n, l.length = n := ⟨_, rfl⟩
  rw [hn] at hl hi hlc ⊢
  have HN := Lib.hid hn
  clear hA hans hn
  go_enter Tryz.func54, Tryz.ntmps54
  go_wp2
  go_loop [5] (fun x => ∃ k : Nat, x = .int .i64 k ∧ i + k ≤ n ∧ k + cnt inr (l.drop (i + k)) = ANS) (fun x => n - (intOf x).toNat)
  case atStart => exact ⟨0, rfl, hi, by rw [Nat.zero_add]; exact HANS.out⟩
  case round =>
    obtain ⟨k, rfl, hk, hc⟩ := hrel
    have HC := Lib.hid hc
    clear hc
    by_cases hlt : i + k < n
    · obtain ⟨r, hr⟩ : ∃ r, l[i + k]? = some r := ⟨_, List.getElem?_eq_getElem (by rw [HN.out]; exact hlt)⟩
      obtain ⟨ad, rfl, _, hcell⟩ := HA.out _ _ hr
      have HAT := Lib.hid (cnt_at (f := inr) hr)
      have hz : (i : Int) + (k : Int) < (n : Int) := by omega
      have cI := fun W => inner_any r W
      obtain ⟨b, hb⟩ : ∃ b, inr r = b := ⟨_, rfl⟩
      rw [hb] at cI HAT
      clear hr hb
      cases b
      · go_wp2_with (go_at_call 57; refine (cI _).mono ?_; rintro e w' ⟨rfl, rfl⟩)
        go_ret
        exact int_same (by have h1 := HC.out; have h2 := HAT.out; simp at h2; omega)
      · go_wp2_with (go_at_call 57; refine (cI _).mono ?_; rintro e w' ⟨rfl, rfl⟩)
        go_round
        case rel => exact ⟨k + 1, by go_num, by omega, by have h1 := HC.out; have h2 := HAT.out; simp at h2; rw [← Nat.add_assoc]; omega⟩
        case measure => simp [intOf]; omega
    · have hz : ¬ (i : Int) + (k : Int) < (n : Int) := by omega
      go_wp2
      go_ret
      exact int_same (by
        have h1 := HC.out
        rw [List.drop_eq_nil_of_le (by rw [HN.out]; omega)] at h1
        have h2 : cnt inr [] = 0 := rfl
        omega)
def StrSame (s : ByteArray) (W : World) (e : Ending) (w' : World) : Prop := e = .returned (.string s) ∧ W = w'
theorem str_same {s t : ByteArray} {W : World} (h : t = s) : StrSame s W (.returned (.string t)) W := ⟨by rw [h], rfl⟩
theorem enc_one {r : Nat} (h : ok r) : ByteArray.empty ++ Utf8.encode (r : Int) = T [r] := by
  have h' : r < 55296 ∨ (57343 < r ∧ r ≤ 1114111) := h
  rw [enc_eq r h']
  apply ba_ext
  rw [ByteArray.data_append, Array.toList_append, T_list]
  show [] ++ Lib.encodeRune (r : Int) = en r ++ []
  rw [List.append_nil]
  rfl

theorem sz_le (l : List Nat) : sz l ≤ 4 * l.length := by
  induction l with
  | nil => exact Nat.le_refl _
  | cons r t ih =>
    have := (wd_pos r).2
    rw [sz_cons, List.length_cons]
    omega

set_option maxHeartbeats 1600000 in
set_option maxRecDepth 100000 in
theorem text_any (v : Value) (l : List Nat) (B i j : Nat) (w : World) (h : Sl w B v l) (ho : okl l) (hi : i ≤ j) (hj : j ≤ l.length) (hl : l.length ≤ 1000000) :
    Calls Tryz.prog 21 #[v, .int .i64 (i : Int), .int .i64 (j : Int)] w (StrSame (T ((l.drop i).take (j - i))) w) := by
  obtain ⟨A, c, rfl, hlc, hA⟩ := h
  have HA := Lib.hid hA
  obtain ⟨n, hn⟩ : ∃ n, l.length = n := ⟨_, rfl⟩
  rw [hn] at hl hj hlc ⊢
  have HN := Lib.hid hn
  obtain ⟨ANS, hans⟩ : ∃ s, T ((l.drop i).take (j - i)) = s := ⟨_, rfl⟩
  rw [hans]
  have HANS := Lib.hid hans
  clear hA hn hans
  go_enter Tryz.func21, Tryz.ntmps21
  go_wp2
  go_loop [7, 8] (fun s x => ∃ k : Nat, x = .int .i64 (i + k : Nat) ∧ i + k ≤ j ∧ s = .string (T ((l.drop i).take k))) (fun _ x => j - (intOf x).toNat)
  case atStart => exact ⟨0, by simp, by omega, rfl⟩
  case round =>
    obtain ⟨k, rfl, hk, rfl⟩ := hrel
    obtain ⟨p, hp⟩ : ∃ p, i + k = p := ⟨_, rfl⟩
    have HP := Lib.hid hp
    rw [hp] at hk ⊢
    have hpi : i ≤ p := by omega
    clear hp
    by_cases hlt : p < j
    · obtain ⟨r, hr⟩ : ∃ r, l[p]? = some r := ⟨_, List.getElem?_eq_getElem (by rw [HN.out]; omega)⟩
      obtain ⟨ad, rfl, _, hcell⟩ := HA.out _ _ hr
      have hor : ok r := ho r (List.mem_of_getElem? hr)
      have hcv : ∀ (cap : Nat) (W : World), w = W → (convert 54 9 (.slice (some (ad.add p)) 1 cap)).run Tryz.prog W = .ok (.string (T [r])) W := by
        intro cap W hW
        subst hW
        have := run_convert_runes (P := Tryz.prog) w 54 9 21 (ad.add p) 1 cap [(r : Int)] (Nat.le_refl _) Tryz.underlying54 Tryz.underlying21 Tryz.underlying9 (fun q hq => by
          have : q = 0 := by simp at hq; exact hq
          subst this
          rw [addAdd]
          exact hcell)
        rw [this]
        have e : runesBytes (List.take 1 [(r : Int)]) = ByteArray.empty ++ Utf8.encode (r : Int) := rfl
        rw [e, enc_one hor]
      have hcw := fun cap => hcv cap w rfl
      have HST : Hid (T ((l.drop i).take k) ++ T [r] = T ((l.drop i).take (k + 1))) := Lib.hid (by
        rw [← T_app, List.take_add_one, List.getElem?_drop, HP.out, hr]
        rfl)
      have b1 : (T ((l.drop i).take k)).size ≤ 4000000 := by
        rw [T_size]
        have h1 := sz_le ((l.drop i).take k)
        have h2 : ((l.drop i).take k).length ≤ l.length := by rw [List.length_take, List.length_drop]; omega
        have h3 := HN.out
        omega
      have b2 : (T [r]).size ≤ 4 := by rw [T_size, sz_cons, sz_nil]; exact (wd_pos r).2
      obtain ⟨S1, hS1⟩ : ∃ S, T ((l.drop i).take k) = S := ⟨_, rfl⟩
      obtain ⟨S2, hS2⟩ : ∃ S, T [r] = S := ⟨_, rfl⟩
      rw [hS1] at b1 HST ⊢
      rw [hS2] at b2 HST hcw
      clear hr hcv hcell hS1 hS2
      go_wp2
      go_round
      case rel => exact ⟨k + 1, by rw [← Nat.add_assoc, HP.out]; go_num, by rw [← Nat.add_assoc, HP.out]; omega, by rw [HST.out]⟩
      case measure => simp [intOf]; omega
    · go_wp2
      go_ret
      exact str_same (by rw [← HANS.out]; have := HP.out; rw [show k = j - i by omega])

theorem cell_succ {w : World} {ad : Addr} {p : Nat} {v : Value} (h : w.cell? (ad.add (p + 1)) = some v) : w.cell? ⟨ad.block, ad.off + (p + 1), none⟩ = some v := by
  unfold Addr.add at h
  rw [if_neg (by omega)] at h
  exact h
/-! ### comments, by pairs -/
theorem cm_one (d : Int) {l : List Nat} (h : l.length ≤ 1) : cm d 32 l = none := by
  match l, h with
  | [], _ => rfl
  | [r], _ => simp [cm]
theorem cm_open (d : Int) (hd : d + 1 ≠ 0) (t : List Nat) : cm d 32 (40 :: 42 :: t) = (cm (d + 1) 32 t).map (· + 2) := by
  rw [cm, if_neg (by decide), if_neg (by decide), cm, if_pos (by decide), if_neg hd, Option.map_map]
  rfl
theorem cm_close (d : Int) (t : List Nat) : cm d 32 (42 :: 41 :: t) = if d - 1 = 0 then some 2 else (cm (d - 1) 32 t).map (· + 2) := by
  rw [cm, if_neg (by decide), if_neg (by decide), cm, if_neg (by decide), if_pos (by decide)]
  split
  · rfl
  · rw [Option.map_map]; rfl
theorem cm_pass (d : Int) {r q : Nat} (t : List Nat) (h1 : ¬ (r = 40 ∧ q = 42)) (h2 : ¬ (r = 42 ∧ q = 41)) : cm d 32 (r :: q :: t) = (cm d 32 (q :: t)).map (· + 1) := by
  rw [cm, if_neg (by omega), if_neg (by omega), cm, if_neg h1, if_neg h2]
  conv => rhs; rw [cm]
  rw [if_neg (by omega), if_neg (by omega)]
theorem drop_two {l : List Nat} {p r q : Nat} (h : l[p]? = some r) (h' : l[p + 1]? = some q) : l.drop p = r :: q :: l.drop (p + 2) := by
  have h1 := (List.getElem?_eq_some_iff.1 h).1
  have h2 := (List.getElem?_eq_some_iff.1 h).2
  have h3 := (List.getElem?_eq_some_iff.1 h').1
  have h4 := (List.getElem?_eq_some_iff.1 h').2
  rw [List.drop_eq_getElem_cons h1, h2, List.drop_eq_getElem_cons h3, h4]
theorem drop_succ {l : List Nat} {p r : Nat} (h : l[p]? = some r) : l.drop p = r :: l.drop (p + 1) := by
  have h1 := (List.getElem?_eq_some_iff.1 h).1
  have h2 := (List.getElem?_eq_some_iff.1 h).2
  rw [List.drop_eq_getElem_cons h1, h2]
/-- Where the comment at i ends: its place; 0: nowhere. -/
def cmAt (l : List Nat) (i : Nat) : Nat := match cm 0 32 (l.drop i) with | none => 0 | some k => i + k
/-- What is still to come, k runes behind i, d deep. -/
def CmRel (l : List Nat) (i : Nat) (d : Int) (p : Nat) : Prop := cm 0 32 (l.drop i) = (cm d 32 (l.drop p)).map (· + (p - i))
theorem cmrel_next {l : List Nat} {i p : Nat} {d d' : Int} {m : Nat} (h : CmRel l i d p) (hp : i ≤ p) (e : cm d 32 (l.drop p) = (cm d' 32 (l.drop (p + m))).map (· + m)) : CmRel l i d' (p + m) := by
  unfold CmRel at h ⊢
  rw [h, e, Option.map_map]
  congr 1
  funext x
  show x + m + (p - i) = x + (p + m - i)
  omega

set_option maxHeartbeats 3200000 in
set_option maxRecDepth 100000 in
theorem comment_ref (v : Value) (l : List Nat) (B i : Nat) (w : World) (h : Sl w B v l) (hl : l.length ≤ 1000000) (hi : i ≤ l.length) (hop : opens (l.drop i) = true) :
    Calls Tryz.prog 23 #[v, .int .i64 (i : Int)] w (IntSame (cmAt l i) w) := by
  obtain ⟨A, c, rfl, hlc, hA⟩ := h
  have HA := Lib.hid hA
  obtain ⟨n, hn⟩ : ∃ n, l.length = n := ⟨_, rfl⟩
  rw [hn] at hl hlc hi ⊢
  have HN := Lib.hid hn
  obtain ⟨ANS, hans⟩ : ∃ s, cmAt l i = s := ⟨_, rfl⟩
  rw [hans]
  have HANS := Lib.hid hans
  clear hA hn hans
  go_enter Tryz.func23, Tryz.ntmps23
  go_wp2
  go_loop [1, 5] (fun x y => ∃ (p : Nat) (d : Int), x = .int .i64 p ∧ y = .int .i64 d ∧ i ≤ p ∧ p ≤ n ∧ d ≤ p ∧ CmRel l i d p ∧ (1 ≤ d ∨ (p = i ∧ d = 0))) (fun x _ => n - (intOf x).toNat)
  case atStart => exact ⟨i, 0, rfl, rfl, Nat.le_refl _, hi, by omega, by unfold CmRel; rw [Nat.sub_self]; cases cm 0 32 (l.drop i) <;> rfl, .inr ⟨rfl, rfl⟩⟩
  case round =>
    obtain ⟨p, d, rfl, rfl, hip, hpn, hd2, hr, hd0⟩ := hrel
    have HR := Lib.hid hr
    have HD0 := Lib.hid hd0
    clear hr hd0
    by_cases hlt : p + 1 < n
    · have hz : (p : Int) + 1 < (n : Int) := by omega
      obtain ⟨r, hr⟩ : ∃ r, l[p]? = some r := ⟨_, List.getElem?_eq_getElem (by rw [HN.out]; omega)⟩
      obtain ⟨q, hq⟩ : ∃ q, l[p + 1]? = some q := ⟨_, List.getElem?_eq_getElem (by rw [HN.out]; omega)⟩
      obtain ⟨ad, rfl, _, hc1⟩ := HA.out _ _ hr
      obtain ⟨ad', had, _, hc2'⟩ := HA.out _ _ hq
      injection had with had
      subst had
      have hc2 := cell_succ hc2'
      clear hc2'
      have HOP : Hid (p = i → r = 40 ∧ q = 42) := Lib.hid (fun hpi => by
        subst hpi
        rw [drop_two hr hq] at hop
        obtain ⟨t, ht⟩ := List.isPrefixOf_iff_prefix.1 hop
        injection ht with h1 h2
        injection h2 with h2 h3
        exact ⟨h1.symm, h2.symm⟩)
      have HD2 := Lib.hid (drop_two hr hq)
      have HD1 := Lib.hid (drop_succ hq)
      clear hr hq
      by_cases c1 : r = 40 ∧ q = 42
      · obtain ⟨rfl, rfl⟩ := c1
        have hdge : 0 ≤ d := by have := HD0.out; omega
        have HE := Lib.hid (cm_open d (by omega) (l.drop (p + 2)))
        go_wp2
        go_round
        case rel => exact ⟨p + 2, d + 1, by go_num, by go_num, by omega, by omega, by omega, cmrel_next HR.out hip (by rw [HD2.out]; exact HE.out), .inl (by omega)⟩
        case measure => simp [intOf]; omega
      · have hdge : 1 ≤ d := by
          rcases HD0.out with h | ⟨h, _⟩
          · exact h
          · exact absurd (HOP.out h) c1
        have b1 : (((r : Int) == 40) && ((q : Int) == 42)) = false := by
          rw [Bool.and_eq_false_iff, beq_eq_false_iff_ne, beq_eq_false_iff_ne]; omega
        by_cases c2 : r = 42 ∧ q = 41
        · obtain ⟨rfl, rfl⟩ := c2
          have HE := Lib.hid (cm_close d (l.drop (p + 2)))
          clear b1 c1
          by_cases hd1 : d = 1
          · subst hd1
            go_wp2
            go_ret
            exact int_same (by
              have h1 := HR.out
              unfold CmRel at h1
              rw [HD2.out, HE.out, if_pos (by omega)] at h1
              rw [← HANS.out]
              unfold cmAt
              rw [h1]
              show _ = ((i + (2 + (p - i)) : Nat) : Int)
              omega)
          · have hd1' : (d - 1 == 0) = false := by rw [beq_eq_false_iff_ne]; omega
            have HD1N := Lib.hid hd1
            clear hd1
            go_wp2
            go_round
            case rel => exact ⟨p + 2, d - 1, by go_num, by go_num, by omega, by omega, by omega, cmrel_next HR.out hip (by rw [HD2.out, HE.out, if_neg (by have := HD1N.out; omega)]), .inl (by have := HD1N.out; omega)⟩
            case measure => simp [intOf]; omega
        · have HE := Lib.hid (cm_pass d (l.drop (p + 2)) c1 c2)
          have b2 : (((r : Int) == 42) && ((q : Int) == 41)) = false := by
            rw [Bool.and_eq_false_iff, beq_eq_false_iff_ne, beq_eq_false_iff_ne]; omega
          have CA := Lib.hid c1
          have CB := Lib.hid c2
          clear c1 c2
          go_wp2
          all_goals first
            | (exfalso; have ca := CA.out; have cb := CB.out; simp only [beq_iff_eq, beq_eq_false_iff_ne, ne_eq] at *; omega)
            | (go_round
               case rel => exact ⟨p + 1, d, by go_num, rfl, by omega, by omega, by omega, cmrel_next HR.out hip (by rw [HD2.out, HD1.out, HE.out]), .inl hdge⟩
               case measure => simp [intOf]; omega)
            | trace_state
    · have hz : ¬ (p : Int) + 1 < (n : Int) := by omega
      go_wp2
      go_ret
      exact int_same (by
        have h1 := HR.out
        unfold CmRel at h1
        rw [cm_one d (by rw [List.length_drop, HN.out]; omega)] at h1
        rw [← HANS.out]
        unfold cmAt
        rw [h1]
        rfl)
end Go.Proofs.YteennkekpblccaaGreatDoor
