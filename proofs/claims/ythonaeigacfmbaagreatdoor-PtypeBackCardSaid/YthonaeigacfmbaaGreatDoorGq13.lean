/-
  Plain facts, without the program: a text cut at its dots.
-/
import Derived.Test.YthonaeigacfmbaaGreatDoorGq12
import Derived.Lib.Split
namespace Go.Proofs.YthonaeigacfmbaaGreatDoor.B
open Go.Lib

theorem ib_none {x : List UInt8} {c : UInt8} (h : c ∉ x) : indexByte x c = -1 := by
  induction x with
  | nil => rfl
  | cons b t ih =>
    simp only [List.mem_cons, not_or] at h
    unfold indexByte
    rw [if_neg (by simp; exact fun e => h.1 e.symm), ih h.2]
    rfl
theorem ib_at {x y : List UInt8} {c : UInt8} (h : c ∉ x) : indexByte (x ++ c :: y) c = (x.length : Int) := by
  induction x with
  | nil => simp [indexByte]
  | cons b t ih =>
    simp only [List.mem_cons, not_or] at h
    show indexByte (b :: (t ++ c :: y)) c = _
    unfold indexByte
    rw [if_neg (by simp; exact fun e => h.1 e.symm), ih h.2, if_neg (by simp)]
    simp
def D46 : ByteArray := ⟨#[46]⟩
theorem idx_none {l : List Nat} (ho : okl l) (h : 46 ∉ l) : indexB (T l) D46 = -1 := by
  show index (enc l) [46] = -1
  rw [index_one]
  exact ib_none fun hm => h (mem_enc (c := 46) ho (by omega) hm)
theorem idx_at {a r : List Nat} (ho : okl a) (h : 46 ∉ a) : indexB (T (a ++ 46 :: r)) D46 = ((sz a : Nat) : Int) := by
  show index (enc (a ++ 46 :: r)) [46] = _
  rw [index_one, enc_app]
  show indexByte (enc a ++ (en 46 ++ enc r)) 46 = _
  rw [(wd_ascii (r := 46) (by omega)).2]
  exact ib_at fun hm => h (mem_enc (c := 46) ho (by omega) hm)
theorem spl_none {l : List Nat} (h : 46 ∉ l) : spl l = [l] := by
  induction l with
  | nil => rfl
  | cons r t ih =>
    simp only [List.mem_cons, not_or] at h
    unfold spl
    rw [if_neg (fun e => h.1 e.symm), ih h.2]
theorem spl_ne {x : Nat} {t : List Nat} (h : x ≠ 46) : spl (x :: t) = (match spl t with | [] => [[x]] | a :: b => (x :: a) :: b) := by
  rw [spl, if_neg h]
  cases spl t <;> rfl
theorem spl_at {a r : List Nat} (h : 46 ∉ a) : spl (a ++ 46 :: r) = a :: spl r := by
  induction a with
  | nil => show spl (46 :: r) = _; simp [spl]
  | cons x t ih =>
    simp only [List.mem_cons, not_or] at h
    show spl (x :: (t ++ 46 :: r)) = _
    rw [spl_ne (fun e => h.1 e.symm), ih h.2]
theorem dot_or (l : List Nat) : 46 ∉ l ∨ ∃ a r, l = a ++ 46 :: r ∧ 46 ∉ a := by
  induction l with
  | nil => left; simp
  | cons x t ih =>
    by_cases hx : x = 46
    · right; exact ⟨[], t, by rw [hx]; rfl, by simp⟩
    · rcases ih with h | ⟨a, r, rfl, h⟩
      · left; simp; exact ⟨fun e => hx e.symm, h⟩
      · right; exact ⟨x :: a, r, rfl, by simp; exact ⟨fun e => hx e.symm, h⟩⟩
theorem split_T : ∀ (n : Nat) (l : List Nat), l.length ≤ n → okl l → splitB D46 0 (countB (T l) D46) (T l) = (spl l).map T ∧ countB (T l) D46 + 1 = (spl l).length
  | n, l, hn, ho => by
    rcases dot_or l with h | ⟨a, r, rfl, h⟩
    · rw [countB_miss _ _ (idx_none ho h), spl_none h]
      exact ⟨rfl, rfl⟩
    · obtain ⟨h1, h2⟩ := okl_app.1 ho
      obtain ⟨h2, h3⟩ := okl_cons.1 h2
      cases n with
      | zero => simp at hn
      | succ n =>
        have hl : r.length ≤ n := by simp at hn; omega
        have ih := split_T n r hl h3
        have e1 : (T (a ++ 46 :: r)).extract (sz a + D46.size) (T (a ++ 46 :: r)).size = T r := by
          have := T_suf (a ++ [46]) r
          rw [List.append_assoc] at this
          rw [T_size]
          have e2 : sz (a ++ [46]) = sz a + D46.size := by rw [sz_app, sz_cons, (wd_ascii (r := 46) (by omega)).1]; rfl
          rw [e2] at this
          exact this
        have e3 : countB (T (a ++ 46 :: r)) D46 = countB (T r) D46 + 1 := by
          rw [countB_hit _ _ (sz a) (by decide) (idx_at h1 h), e1, Nat.add_comm]
        rw [e3, splitB_hit _ _ _ _ (sz a) (idx_at h1 h), e1, spl_at h, Nat.add_zero, T_pre, ih.1, ih.2]
        exact ⟨rfl, rfl⟩
end Go.Proofs.YthonaeigacfmbaaGreatDoor.B
namespace Go.Proofs.YthonaeigacfmbaaGreatDoor.B
open Go.RowKit

theorem splitL_any (l : List Nat) (ho : okl l) (hsz : sz l ≤ 100000000) (w : World) (hL : Lx w) :
    Calls Tryz.prog 226 #[.string (T l), .string ⟨#[46]⟩] w fun e w' => e = .returned (.slice (some ⟨w.heap.size, 0, none⟩) (spl l).length (spl l).length) ∧ w' = w.alloc (.cells ((spl l).map fun y => Value.string (T y)).toArray 9) := by
  obtain ⟨m, hm⟩ := hL.2.2.1
  obtain ⟨h1, h2⟩ := split_T l.length l (Nat.le_refl _) ho
  refine (Tryz.strings_Split (T l) ⟨#[46]⟩ m w (by rw [T_size]; omega) hm (by decide)).mono fun e w' k => ?_
  have h1' : Lib.splitB ⟨#[46]⟩ 0 (Lib.countB (T l) ⟨#[46]⟩) (T l) = (spl l).map T := h1
  have h2' : Lib.countB (T l) ⟨#[46]⟩ + 1 = (spl l).length := h2
  rw [h1', h2', List.map_map] at k
  exact k
def pcs (y : List Nat) : Bool := !wrd (T y) && nm (T y)
theorem allL_upto {l : List (List Nat)} (h : ∀ (j : Nat) y, j < l.length → l[j]? = some y → pcs y = true) : (l.all pcs) = true := by
  rw [List.all_eq_true]
  intro y hy
  obtain ⟨j, hj, rfl⟩ := List.getElem_of_mem hy
  exact h j _ hj (List.getElem?_eq_getElem hj)
theorem allL_not {l : List (List Nat)} {j : Nat} {y : List Nat} (h : l[j]? = some y) (hp : pcs y = false) : (l.all pcs) = false := by
  rw [List.all_eq_false]
  exact ⟨y, List.mem_of_getElem? h, by rw [hp]; simp⟩
theorem long_size {l : List Nat} (h : ¬ sz l ≤ 128) : isLong l = false := by
  unfold isLong; rw [decide_eq_false h, Bool.false_and]
theorem long_all {l : List Nat} {b : Bool} (h : sz l ≤ 128) (hb : (spl l).all pcs = b) : isLong l = b := by
  unfold isLong; rw [decide_eq_true h, Bool.true_and]; exact hb
theorem spl_len : ∀ l : List Nat, 1 ≤ (spl l).length ∧ (spl l).length ≤ l.length + 1
  | [] => by simp [spl]
  | x :: t => by
    have ih := spl_len t
    by_cases hx : x = 46
    · rw [spl, if_pos hx]; simp; exact ih.2
    · rw [spl_ne hx]
      cases hs : spl t with
      | nil => simp
      | cons a b => rw [hs] at ih; simp at ih ⊢; omega
theorem spl_sz : ∀ (l : List Nat), ∀ y ∈ spl l, sz y ≤ sz l
  | [], y, hy => by simp [spl] at hy; subst hy; exact Nat.le_refl _
  | x :: t, y, hy => by
    have ih := spl_sz t
    rw [sz_cons]
    by_cases hx : x = 46
    · rw [spl, if_pos hx] at hy
      rcases List.mem_cons.1 hy with rfl | hy
      · exact Nat.zero_le _
      · have := ih y hy; omega
    · rw [spl_ne hx] at hy
      cases hs : spl t with
      | nil => rw [hs] at hy; simp at hy; subst hy; rw [sz_cons, sz_nil]; omega
      | cons a b =>
        rw [hs] at hy ih
        rcases List.mem_cons.1 hy with rfl | hy
        · rw [sz_cons]; have := ih a (by simp); omega
        · have := ih y (by simp [hy]); omega

set_option maxHeartbeats 3200000 in
set_option maxRecDepth 100000 in
theorem isLong_any (l : List Nat) (ho : okl l) (hsz : sz l ≤ 100000000) (w : World) (hL : Lx w) :
    Calls Tryz.prog 186 #[.string (T l)] w (NmPost (isLong l) w) := by
  have hTs := T_size l
  by_cases hbig : sz l ≤ 128
  · have cS := splitL_any l ho hsz w hL
    have hlen := spl_len l
    have hll := sz_len l
    obtain ⟨ps, hps⟩ : ∃ ps, spl l = ps := ⟨_, rfl⟩
    have hpz := spl_sz l
    rw [hps] at cS hlen hpz
    obtain ⟨S, hS⟩ : ∃ S, T l = S := ⟨_, rfl⟩
    rw [hS] at cS hTs ⊢
    have hz : ¬ (128 : Int) < (S.size : Int) := by omega
    have HB := Lib.hid hbig
    have HPS := Lib.hid hps
    have hn1 : ps.length ≤ 129 := by omega
    have HPZ : Hid (∀ y ∈ ps, sz y ≤ 128) := Lib.hid fun y hy => by have := hpz y hy; omega
    clear hpz hbig hps hS hTs hsz hll
    go_enter Tryz.func186, Tryz.ntmps186
    go_wp2_with fail
    refine cS.mono ?_
    rintro e w1 ⟨rfl, rfl⟩
    go_wp2
    obtain ⟨n, hn⟩ : ∃ n, ps.length = n := ⟨_, rfl⟩
    have hblk : (w.alloc (.cells (ps.map fun y => Value.string (T y)).toArray 9)).heap[w.heap.size]? = some (.cells (ps.map fun y => Value.string (T y)).toArray 9 (0, 0)) := heap_alloc_new w _
    have hb0 : Below w.heap.size w (w.alloc (.cells (ps.map fun y => Value.string (T y)).toArray 9)) := (Below.refl _ _).alloc (Nat.le_refl _) _
    rw [hn] at hn1 ⊢
    have HN := Lib.hid hn
    generalize (w.alloc (.cells (ps.map fun y => Value.string (T y)).toArray 9)) = W0 at hblk hb0 ⊢
    clear hn hlen
    go_loopw [4, 11] (fun _ i wr => ∃ k : Nat, k ≤ n ∧ i = .int .i64 k ∧ Below w.heap.size w wr ∧ wr.heap[w.heap.size]? = some (.cells (ps.map fun y => Value.string (T y)).toArray 9 (0, 0)) ∧ (∀ (j : Nat) y, j < k → ps[j]? = some y → pcs y = true)) (fun _ i _ => n - (intOf i).toNat)
    case atStart => exact ⟨0, Nat.zero_le _, rfl, hb0, hblk, fun j y hj => absurd hj (Nat.not_lt_zero _)⟩
    case round =>
      obtain ⟨k, hk, rfl, hbw, hblk, hall⟩ := hrel
      have HALL := Lib.hid hall
      clear hall
      by_cases hlt : k < n
      · obtain ⟨y, hy⟩ : ∃ y, ps[k]? = some y := ⟨_, List.getElem?_eq_getElem (by rw [HN.out]; exact hlt)⟩
        have hcell : wr.cell? ⟨w.heap.size, k, none⟩ = some (.string (T y)) := by
          rw [cell_of_row wr _ k _ _ _ hblk]
          simp [hy]
        have HBLK := Lib.hid hblk
        have HY := Lib.hid hy
        have hyz := HPZ.out y (List.mem_of_getElem? hy)
        have cN := fun W => goodName (T y) W (by rw [T_size]; omega)
        have cW := fun W => word_any (T y) W
        have HP : Hid (pcs y = (!wrd (T y) && nm (T y))) := Lib.hid rfl
        obtain ⟨X, hX⟩ : ∃ X, T y = X := ⟨_, rfl⟩
        rw [hX] at hcell cN cW HP
        clear hblk hy hX hyz
        obtain ⟨b1, hb1⟩ : ∃ b, wrd X = b := ⟨_, rfl⟩
        obtain ⟨b2, hb2⟩ : ∃ b, nm X = b := ⟨_, rfl⟩
        rw [hb1] at cW HP
        rw [hb2] at cN HP
        clear hb1 hb2
        cases b1
        · cases b2
          · go_wp2_with fail
            refine (cW _).mono ?_
            rintro e w' ⟨rfl, rfl⟩
            go_wp2_with fail
            refine (cN _).mono ?_
            rintro e w2 ⟨rfl, hb2⟩
            have hfin := hbw.trans (hb2.mono hbw.size)
            go_wp2
            go_ret
            exact ⟨ret_b (long_all HB.out (by rw [HPS.out]; exact allL_not HY.out HP.out)), hfin⟩
          · go_wp2_with fail
            refine (cW _).mono ?_
            rintro e w' ⟨rfl, rfl⟩
            go_wp2_with fail
            refine (cN _).mono ?_
            rintro e w2 ⟨rfl, hb2⟩
            have hfin := hbw.trans (hb2.mono hbw.size)
            have HB2 := Lib.hid (heap_below HBLK.out hb2)
            go_wp2
            go_roundw
            case rel => exact ⟨k + 1, by omega, by go_num, hfin, HB2.out, fun j z hj hz => by
              rcases Nat.lt_or_ge j k with h | h
              · exact HALL.out j z h hz
              · have hjk : j = k := by omega
                subst hjk
                rw [HY.out] at hz
                injection hz with hz
                subst hz
                exact HP.out⟩
            case measure => simp [intOf]; omega
        · go_wp2_with fail
          refine (cW _).mono ?_
          rintro e w' ⟨rfl, rfl⟩
          go_wp2
          go_ret
          exact ⟨ret_b (long_all HB.out (by rw [HPS.out]; exact allL_not HY.out (by rw [HP.out]; rfl))), hbw⟩
      · have hkn : k = n := by omega
        subst hkn
        go_wp2
        go_ret
        exact ⟨ret_b (long_all HB.out (by rw [HPS.out]; exact allL_upto (by rw [HN.out]; exact HALL.out))), hbw⟩
  · have hz : (128 : Int) < ((T l).size : Int) := by omega
    have HB := Lib.hid hbig
    clear hbig hTs
    go_enter Tryz.func186, Tryz.ntmps186
    go_wp2
    go_ret
    exact ⟨ret_b (long_size HB.out), Below.refl _ _⟩

/-! ### names -/
theorem cnt_lng (l : List Nat) : cnt lng l = cnt inr l + (match l.drop (cnt inr l) with | 46 :: t => 1 + cnt lng t | _ => 0) := by
  induction l with
  | nil => rfl
  | cons r t ih =>
    cases hr : inr r
    · by_cases h46 : r = 46
      · subst h46
        have h1 : cnt lng (46 :: t) = cnt lng t + 1 := by simp [cnt, lng]
        have h2 : cnt inr (46 :: t) = 0 := by simp [cnt, hr]
        rw [h1, h2, List.drop_zero]
        show _ = 0 + (1 + cnt lng t)
        omega
      · have h1 : cnt lng (r :: t) = 0 := by simp [cnt, lng, hr, h46]
        have h2 : cnt inr (r :: t) = 0 := by simp [cnt, hr]
        rw [h1, h2, List.drop_zero]
        split
        · rename_i u e
          injection e with e1 e2
          exact absurd e1 h46
        · rfl
    · have h1 : cnt lng (r :: t) = cnt lng t + 1 := by simp [cnt, lng, hr]
      have h2 : cnt inr (r :: t) = cnt inr t + 1 := by simp [cnt, hr]
      rw [h1, h2, List.drop_succ_cons, ih]
      omega
def lrest (b : List Nat) : Nat := match b with | 46 :: t => 1 + cnt lng t | _ => 0
theorem lrest_dot (t : List Nat) : lrest (46 :: t) = 1 + cnt inr t + lrest (t.drop (cnt inr t)) := by
  show 1 + cnt lng t = _
  rw [cnt_lng t]
  unfold lrest
  omega
theorem lrest_no {b : List Nat} (h : List.isPrefixOf [46] b = false) : lrest b = 0 := by
  unfold lrest
  split
  · simp at h
  · rfl

set_option maxHeartbeats 6400000 in
set_option maxRecDepth 100000 in
theorem name_any (l : List Nat) (ho : okl l) (hsz : sz l ≤ 100000000) (w : World) (hL : Lx w) :
    Calls Tryz.prog 122 #[.string (T l)] w (TkPost l (nameT l) w) := by
  have hTs := T_size l
  have c1 := fun W => run_goesOn (T l) W
  rw [rn_T0 inr ho] at c1
  obtain ⟨N, hN⟩ : ∃ N, cnt lng l = N := ⟨_, rfl⟩
  obtain ⟨S, hS⟩ : ∃ S, T l = S := ⟨_, rfl⟩
  rw [hS] at hTs c1 ⊢
  have HS := Lib.hid hS
  have HNN := Lib.hid hN
  have HZ := Lib.hid hTs
  have hzS : S.size ≤ 100000000 := by omega
  have H0 : Hid (l = l.take (cnt inr l) ++ l.drop (cnt inr l) ∧ sz (l.take (cnt inr l)) ≤ S.size ∧ (l.take (cnt inr l)).length + lrest (l.drop (cnt inr l)) = N) := Lib.hid (by
    refine ⟨(List.take_append_drop _ _).symm, ?_, ?_⟩
    · rw [hTs]
      have : sz l = sz (l.take (cnt inr l)) + sz (l.drop (cnt inr l)) := by rw [← sz_app, List.take_append_drop]
      omega
    · rw [← hN, cnt_lng l, List.length_take]
      have := cnt_le inr l
      unfold lrest
      omega)
  obtain ⟨z0, hz0⟩ : ∃ z, sz (l.take (cnt inr l)) = z := ⟨_, rfl⟩
  have hz1 : z0 ≤ S.size := by rw [← hz0]; exact H0.out.2.1
  rw [hz0] at c1
  have HZ0 := Lib.hid hz0
  clear hS hN hTs hz0
  go_enter Tryz.func122, Tryz.ntmps122
  go_wp2_with fail
  refine (c1 _).mono ?_
  rintro e w1 ⟨rfl, hb1⟩
  have hr1 := (Rc.new_ w).below hb1
  have hbb := ((Below.refl _ _).alloc (Nat.le_refl _) _).trans (hb1.mono (by simp))
  clear hb1 c1
  go_wp2
  go_loopw [4] (fun v wr => ∃ a b : List Nat, l = a ++ b ∧ v = .int .i64 (sz a : Nat) ∧ Below w.heap.size w wr ∧ sz a ≤ S.size ∧ a.length + lrest b = N ∧ Rc wr w.heap.size #[.int .i64 0, .string ⟨#[]⟩, .int .i64 0, .int .i64 0]) (fun v _ => S.size - (intOf v).toNat)
  case atStart => exact ⟨_, _, H0.out.1, by rw [HZ0.out], hbb, H0.out.2.1, H0.out.2.2, hr1⟩
  case round =>
    obtain ⟨a, b, hl, rfl, hbw, hle, hans, hrc⟩ := hrel
    have hob := (okl_app.1 (hl ▸ ho)).2
    have E1 : Hid (S.extract (sz a) S.size = T b) := Lib.hid (by rw [← HS.out, T_size, hl]; exact T_suf a b)
    have hp0 : Lib.hasPrefix (T b).data.toList (ByteArray.mk #[46]).data.toList = List.isPrefixOf [46] b := pre_T (p := [46]) (by decide) hob
    obtain ⟨h46, hh46⟩ : ∃ h, List.isPrefixOf [46] b = h := ⟨_, rfl⟩
    have cH := fun W => hasPre (hp0.trans hh46) W
    have HRC := Lib.hid hrc
    clear hp0 hrc
    cases h46
    · have hlr := lrest_no hh46
      have ha : l.take N = a := by rw [hl, ← hans, hlr, Nat.add_zero]; exact List.take_left
      have E2 : Hid (S.extract 0 (sz a) = T a) := Lib.hid (by rw [← HS.out, hl]; exact T_pre a b)
      have HA := Lib.hid ha
      have hoa := (okl_app.1 (hl ▸ ho)).1
      have hza : sz a ≤ 100000000 := by omega
      have cW := fun W => word_any (T a) W
      have cL := fun W hL => isLong_any a hoa hza W hL
      have HT1 : Hid (wrd (T a) = true → nameT l = some (⟨3, a, 0⟩, N)) := Lib.hid (fun h => by unfold nameT; rw [HNN.out, ha, if_pos h])
      have HT2 : Hid (wrd (T a) = false → isLong a = true → nameT l = some (⟨1, a, 0⟩, N)) := Lib.hid (fun h h2 => by unfold nameT; rw [HNN.out, ha, if_neg (by rw [h]; simp), if_pos h2])
      have HT3 : Hid (wrd (T a) = false → isLong a = false → nameT l = none) := Lib.hid (fun h h2 => by unfold nameT; rw [HNN.out, ha, if_neg (by rw [h]; simp), if_neg (by rw [h2]; simp)])
      clear hl hans hh46 hlr ha hob
      obtain ⟨b1, hb1⟩ : ∃ b, wrd (T a) = b := ⟨_, rfl⟩
      obtain ⟨b2, hb2⟩ : ∃ b, isLong a = b := ⟨_, rfl⟩
      rw [hb1] at cW HT1 HT2 HT3
      rw [hb2] at cL HT2 HT3
      have CL := Lib.hid cL
      obtain ⟨X, hX⟩ : ∃ X, T a = X := ⟨_, rfl⟩
      rw [hX] at cW CL E2
      have HX := Lib.hid hX
      clear hb1 hb2 cL hX
      go_wp2_with fail
      rw [E1.out]
      refine (cH _).mono ?_
      rintro e w' ⟨rfl, rfl⟩
      go_wp2_with fail
      rw [E2.out]
      refine (cW _).mono ?_
      rintro e w' ⟨rfl, rfl⟩
      cases b1
      · go_wp2_with fail
        refine (CL.out wr (hL.below hbw)).mono ?_
        rintro e w2 ⟨rfl, hb2⟩
        have hfin := hbw.trans (hb2.mono hbw.size)
        have HR := Lib.hid (HRC.out.below hb2)
        obtain ⟨⟨q0, q1, q2, q3⟩, f0, f1, f2, f3⟩ := HR.out.cells
        cases b2
        · go_wp2
          refine bodyPost_ret (results_cell_two rfl _ _ w.heap.size _ _ (0, 0) _ rfl (Rc.four HR.out _ _ _ _) Tryz.underlying63 rfl (by kernel_rfl)) rfl ?_
          exact tk_none (HT3.out (by simp) (by simp)) (below_four hfin (Nat.le_refl _) _ _ _ _)
        · go_wp2
          refine bodyPost_ret (results_cell_two rfl _ _ w.heap.size _ _ (0, 0) _ rfl (Rc.four HR.out _ _ _ _) Tryz.underlying63 rfl (by kernel_rfl)) rfl ?_
          exact tk_some (HT2.out (by simp) (by simp)) HX.out.symm (by rw [HA.out]) (below_four hfin (Nat.le_refl _) _ _ _ _)
      · obtain ⟨⟨q0, q1, q2, q3⟩, f0, f1, f2, f3⟩ := HRC.out.cells
        go_wp2
        refine bodyPost_ret (results_cell_two rfl _ _ w.heap.size _ _ (0, 0) _ rfl (Rc.four HRC.out _ _ _ _) Tryz.underlying63 rfl (by kernel_rfl)) rfl ?_
        exact tk_some (HT1.out (by simp)) HX.out.symm (by rw [HA.out]) (below_four hbw (Nat.le_refl _) _ _ _ _)
    · obtain ⟨t, rfl⟩ : ∃ t, b = 46 :: t := by
        obtain ⟨t, ht⟩ := List.isPrefixOf_iff_prefix.1 hh46
        exact ⟨t, by rw [← ht]; rfl⟩
      have hot := (okl_cons.1 hob).2
      have e46 : sz (46 :: t) = 1 + sz t := by rw [sz_cons, (wd_ascii (r := 46) (by omega)).1]
      have hz2 : S.size = sz a + (1 + sz t) := by rw [HZ.out, hl, sz_app, e46]
      have E2 : Hid (S.extract (sz a + 1) S.size = T t) := Lib.hid (by
        have := T_suf (a ++ [46]) t
        rw [List.append_assoc] at this
        have e2 : sz (a ++ [46]) = sz a + 1 := by rw [sz_app, sz_cons, (wd_ascii (r := 46) (by omega)).1, sz_nil]
        rw [e2] at this
        rw [← HS.out, T_size, hl]
        exact this)
      have c2 := fun W => run_goesOn (T t) W
      rw [rn_T0 inr hot] at c2
      obtain ⟨c, hc⟩ : ∃ c, t.take (cnt inr t) = c := ⟨_, rfl⟩
      obtain ⟨d, hd⟩ : ∃ d, t.drop (cnt inr t) = d := ⟨_, rfl⟩
      have htcd : t = c ++ d := by rw [← hc, ← hd]; exact (List.take_append_drop _ _).symm
      have hzt : sz t = sz c + sz d := by rw [htcd, sz_app]
      rw [hc] at c2
      have HNEW : Hid (l = (a ++ (46 :: c)) ++ d ∧ sz (a ++ (46 :: c)) = sz a + (1 + sz c) ∧ (a ++ (46 :: c)).length + lrest d = N) := Lib.hid (by
        refine ⟨by rw [hl, htcd]; simp, by rw [sz_app, sz_cons, (wd_ascii (r := 46) (by omega)).1], ?_⟩
        have h1 := lrest_dot t
        have h2 := cnt_le inr t
        have h3 : c.length = cnt inr t := by rw [← hc, List.length_take]; omega
        rw [hd] at h1
        rw [← hans, List.length_append, List.length_cons, h1, h3]
        omega)
      have hzn : sz a + (1 + sz c) ≤ S.size := by omega
      have hzn2 : sz a + 1 ≤ S.size := by omega
      clear hl hans hh46 hc hd htcd hzt hz2 e46
      go_wp2_with fail
      rw [E1.out]
      refine (cH _).mono ?_
      rintro e w' ⟨rfl, rfl⟩
      go_wp2_with fail
      rw [E2.out]
      refine (c2 _).mono ?_
      rintro e w2 ⟨rfl, hb2⟩
      have hfin := hbw.trans (hb2.mono hbw.size)
      have HR := Lib.hid (HRC.out.below hb2)
      go_wp2
      go_roundw
      case rel => exact ⟨_, _, HNEW.out.1, by rw [HNEW.out.2.1]; go_num, hfin, by rw [HNEW.out.2.1]; exact hzn, HNEW.out.2.2, HR.out⟩
      case measure => simp [intOf]; omega
end Go.Proofs.YthonaeigacfmbaaGreatDoor.B
namespace Go.Proofs.YthonaeigacfmbaaGreatDoor.B
open Go.RowKit

theorem decode_any (r : Nat) (l : List Nat) (ho : okl (r :: l)) (w : World) (hL : Lx w) :
    Calls Tryz.prog 121 #[.string (T (r :: l))] w fun e w' => e = .returned (.tuple #[.int .i32 (r : Int), .int .i64 ((wd r : Nat) : Int)]) ∧ Below w.heap.size w w' := by
  have he : Lib.decodeGo (T (r :: l)) = (r, wd r) := by
    have h0 := lt_T [] r l
    have hd := dc_T0 (okl_cons.1 ho).1 l
    unfold Lib.decodeGo
    rw [List.nil_append] at h0
    first
      | (rw [if_neg (by omega)]; exact hd)
      | (rw [if_pos (by omega)]; exact hd)
      | exact hd
  refine (Tryz.utf8_DecodeRuneInString (T (r :: l)) w hL.1).mono fun e w' k => ?_
  rw [he] at k
  exact k

theorem TkPost.form {l : List Nat} {r : Option (Tok × Nat)} {W w' : World} {e : Ending} (h : TkPost l r W e w') :
    ∃ (K : Int) (S : ByteArray) (M Z : Int), e = .returned (.tuple #[.agg #[.int .i64 K, .string S, .int .i64 M, .int .i64 0], .int .i64 Z]) ∧ Below W.heap.size W w' ∧
      Hid (∀ W2 w2, Below W2.heap.size W2 w2 → TkPost l r W2 (.returned (.tuple #[.agg #[.int .i64 K, .string S, .int .i64 M, .int .i64 0], .int .i64 Z])) w2) := by
  obtain ⟨h1, h2⟩ := h
  cases r with
  | none => exact ⟨0, ⟨#[]⟩, 0, 0, h1, h2, Lib.hid fun W2 w2 hb => ⟨rfl, hb⟩⟩
  | some x =>
    obtain ⟨t, n⟩ := x
    exact ⟨t.k, T t.x, t.n, _, h1, h2, Lib.hid fun W2 w2 hb => ⟨rfl, hb⟩⟩

set_option maxHeartbeats 6400000 in
set_option maxRecDepth 100000 in
theorem token_any (r : Nat) (u : List Nat) (ho : okl (r :: u)) (hsz : sz (r :: u) ≤ 100000000) (w : World) (hL : Lx w) :
    Calls Tryz.prog 73 #[.string (T (r :: u))] w (TkPost (r :: u) (tokT (r :: u)) w) := by
  have cD := fun W hL => decode_any r u ho W hL
  have cC := fun W => goodClass (r : Int) W
  have cN := fun W hL => name_any (r :: u) ho hsz W hL
  have cM := fun W hL => number_any (r :: u) ho hsz W hL
  have cS := fun W hL => sign_any (r :: u) ho W hL
  have hpo : Lib.hasPrefix (T (r :: u)).data.toList (ByteArray.mk #[40, 42]).data.toList = opens (r :: u) := opens_T ho
  have ht : tokT (r :: u) = if cls r = 1 then nameT (r :: u) else if cls r = 2 ∨ r = 126 then numT (r :: u) else if opens (r :: u) then none else signT (r :: u) := rfl
  obtain ⟨l, hl⟩ : ∃ l, r :: u = l := ⟨_, rfl⟩
  rw [hl] at cD cN cM cS hpo ht ⊢
  obtain ⟨S, hS⟩ : ∃ S, T l = S := ⟨_, rfl⟩
  rw [hS] at cD cN cM cS hpo ⊢
  obtain ⟨c, hc⟩ : ∃ c, cls (r : Int) = c := ⟨_, rfl⟩
  rw [hc] at cC ht
  obtain ⟨o, hoo⟩ : ∃ o, opens l = o := ⟨_, rfl⟩
  have cP := fun W => hasPre (hpo.trans hoo) W
  rw [hoo] at ht
  have CD := Lib.hid cD
  have CN := Lib.hid cN
  have CM := Lib.hid cM
  have CS := Lib.hid cS
  clear hl hS hc hoo hpo cD cN cM cS
  by_cases h1 : c = 1
  · subst h1
    rw [if_pos rfl] at ht
    rw [ht]
    clear ht
    go_enter Tryz.func73, Tryz.ntmps73
    go_wp2_with fail
    refine (CD.out _ (hL.below ((Below.refl _ _).alloc (Nat.le_refl _) _))).mono ?_
    rintro e w1 ⟨rfl, hb1⟩
    have hr1 := Lib.hid ((Rc.new_ w).below hb1)
    have hbb := ((Below.refl _ _).alloc (Nat.le_refl _) _).trans (hb1.mono (by simp))
    clear hb1
    go_wp2_with fail
    refine (cC _).mono ?_
    rintro e w' ⟨rfl, rfl⟩
    go_wp2_with fail
    refine (CN.out w1 (hL.below hbb)).mono ?_
    rintro e w2 hk
    obtain ⟨K, X, M, Z, rfl, hb2, HF⟩ := hk.form
    clear hk
    have HR := Lib.hid (hr1.out.below hb2)
    obtain ⟨⟨q0, q1, q2, q3⟩, f0, f1, f2, f3⟩ := HR.out.cells
    have hfin := hbb.trans (hb2.mono hbb.size)
    go_wp2
    refine bodyPost_ret (results_cell_two rfl _ _ w.heap.size _ _ (0, 0) _ rfl (Rc.four HR.out _ _ _ _) Tryz.underlying63 rfl (by kernel_rfl)) rfl ?_
    exact HF.out _ _ (below_four hfin (Nat.le_refl _) _ _ _ _)
  · have e1 : (c == 1) = false := by rw [beq_eq_false_iff_ne]; exact h1
    rw [if_neg h1] at ht
    clear h1
    by_cases h2 : c = 2
    · subst h2
      rw [if_pos (.inl rfl)] at ht
      rw [ht]
      clear ht e1
      go_enter Tryz.func73, Tryz.ntmps73
      go_wp2_with fail
      refine (CD.out _ (hL.below ((Below.refl _ _).alloc (Nat.le_refl _) _))).mono ?_
      rintro e w1 ⟨rfl, hb1⟩
      have hr1 := Lib.hid ((Rc.new_ w).below hb1)
      have hbb := ((Below.refl _ _).alloc (Nat.le_refl _) _).trans (hb1.mono (by simp))
      clear hb1
      go_wp2_with fail
      refine (cC _).mono ?_
      rintro e w' ⟨rfl, rfl⟩
      go_wp2_with fail
      refine (CM.out w1 (hL.below hbb)).mono ?_
      rintro e w2 hk
      obtain ⟨K, X, M, Z, rfl, hb2, HF⟩ := hk.form
      clear hk
      have HR := Lib.hid (hr1.out.below hb2)
      obtain ⟨⟨q0, q1, q2, q3⟩, f0, f1, f2, f3⟩ := HR.out.cells
      have hfin := hbb.trans (hb2.mono hbb.size)
      go_wp2
      refine bodyPost_ret (results_cell_two rfl _ _ w.heap.size _ _ (0, 0) _ rfl (Rc.four HR.out _ _ _ _) Tryz.underlying63 rfl (by kernel_rfl)) rfl ?_
      exact HF.out _ _ (below_four hfin (Nat.le_refl _) _ _ _ _)
    · have e2 : (c == 2) = false := by rw [beq_eq_false_iff_ne]; exact h2
      by_cases h3 : r = 126
      · rw [if_pos (.inr h3)] at ht
        rw [ht]
        have e3 : ((r : Int) == 126) = true := by rw [beq_iff_eq]; omega
        clear ht h2 h3
        go_enter Tryz.func73, Tryz.ntmps73
        go_wp2_with fail
        refine (CD.out _ (hL.below ((Below.refl _ _).alloc (Nat.le_refl _) _))).mono ?_
        rintro e w1 ⟨rfl, hb1⟩
        have hr1 := Lib.hid ((Rc.new_ w).below hb1)
        have hbb := ((Below.refl _ _).alloc (Nat.le_refl _) _).trans (hb1.mono (by simp))
        clear hb1
        go_wp2_with fail
        refine (cC _).mono ?_
        rintro e w' ⟨rfl, rfl⟩
        go_wp2_with fail
        refine (CM.out w1 (hL.below hbb)).mono ?_
        rintro e w2 hk
        obtain ⟨K, X, M, Z, rfl, hb2, HF⟩ := hk.form
        clear hk
        have HR := Lib.hid (hr1.out.below hb2)
        obtain ⟨⟨q0, q1, q2, q3⟩, f0, f1, f2, f3⟩ := HR.out.cells
        have hfin := hbb.trans (hb2.mono hbb.size)
        go_wp2
        refine bodyPost_ret (results_cell_two rfl _ _ w.heap.size _ _ (0, 0) _ rfl (Rc.four HR.out _ _ _ _) Tryz.underlying63 rfl (by kernel_rfl)) rfl ?_
        exact HF.out _ _ (below_four hfin (Nat.le_refl _) _ _ _ _)
      · rw [if_neg (fun h => h.elim h2 h3)] at ht
        have e3 : ((r : Int) == 126) = false := by rw [beq_eq_false_iff_ne]; omega
        rw [ht]
        clear ht h2 h3
        cases o
        · rw [if_neg (by simp)]
          go_enter Tryz.func73, Tryz.ntmps73
          go_wp2_with fail
          refine (CD.out _ (hL.below ((Below.refl _ _).alloc (Nat.le_refl _) _))).mono ?_
          rintro e w1 ⟨rfl, hb1⟩
          have hr1 := Lib.hid ((Rc.new_ w).below hb1)
          have hbb := ((Below.refl _ _).alloc (Nat.le_refl _) _).trans (hb1.mono (by simp))
          clear hb1
          go_wp2_with fail
          refine (cC _).mono ?_
          rintro e w' ⟨rfl, rfl⟩
          go_wp2_with fail
          refine (cP _).mono ?_
          rintro e w' ⟨rfl, rfl⟩
          go_wp2_with fail
          refine (CS.out w1 (hL.below hbb)).mono ?_
          rintro e w2 hk
          obtain ⟨K, X, M, Z, rfl, hb2, HF⟩ := hk.form
          clear hk
          have HR := Lib.hid (hr1.out.below hb2)
          obtain ⟨⟨q0, q1, q2, q3⟩, f0, f1, f2, f3⟩ := HR.out.cells
          have hfin := hbb.trans (hb2.mono hbb.size)
          go_wp2
          refine bodyPost_ret (results_cell_two rfl _ _ w.heap.size _ _ (0, 0) _ rfl (Rc.four HR.out _ _ _ _) Tryz.underlying63 rfl (by kernel_rfl)) rfl ?_
          exact HF.out _ _ (below_four hfin (Nat.le_refl _) _ _ _ _)
        · rw [if_pos rfl]
          go_enter Tryz.func73, Tryz.ntmps73
          go_wp2_with fail
          refine (CD.out _ (hL.below ((Below.refl _ _).alloc (Nat.le_refl _) _))).mono ?_
          rintro e w1 ⟨rfl, hb1⟩
          have hr1 := Lib.hid ((Rc.new_ w).below hb1)
          have hbb := ((Below.refl _ _).alloc (Nat.le_refl _) _).trans (hb1.mono (by simp))
          clear hb1
          go_wp2_with fail
          refine (cC _).mono ?_
          rintro e w' ⟨rfl, rfl⟩
          obtain ⟨⟨q0, q1, q2, q3⟩, f0, f1, f2, f3⟩ := hr1.out.cells
          go_wp2_with fail
          refine (cP _).mono ?_
          rintro e w' ⟨rfl, rfl⟩
          go_wp2
          refine bodyPost_ret (results_cell_two rfl _ _ w.heap.size _ _ (0, 0) _ rfl (Rc.four hr1.out _ _ _ _) Tryz.underlying63 rfl (by kernel_rfl)) rfl ?_
          exact tk_none rfl (below_four hbb (Nat.le_refl _) _ _ _ _)
end Go.Proofs.YthonaeigacfmbaaGreatDoor.B
