/-
  Layer 5, the program's isType, isSig: what they tell of a node, Kind by Kind (written by gsh.py).
-/
import Derived.Test.YtoejegndbcbkmaaMgR
namespace Go.Proofs.Ytoejegndbcbkmaa
open Go.RowKit

set_option maxHeartbeats 3200000 in
set_option maxRecDepth 100000 in
theorem isType_1 (x : Nod) (f : Fr) (w : World) (v : Value) (hk : x.k = 1) (hn : Nd1 x f) (hx : B.Nx w) (hv : HasT w v (some (x, f))) : Calls Try.prog 37 #[v] w (TelB (isT B.nck B.long (x, f) 1) w) := by
  have HE : Hid (isT B.nck B.long (x, f) 1 = (numB x 0 0 && seqK (IF f) [])) := Lib.hid (by show isX _ _ x (IF f) 1 = _; rw [isX_one hk (by rfl), hd_num, seq_K _ _ (by rfl)]; rfl)
  rw [HE.out]
  obtain ⟨q, p, A, c', rfl, hq, c0, c1, c2, c3, c4, hcc, hkid⟩ := InT.open hv
  rw [hk] at c0
  have cH := plain_any x f w _ hv
  have cT : ∀ w1, Up w w1 → Calls Try.prog 50 #[.pointer (some ⟨q, p, none⟩), .slice none 0 0] w1 (TelB (seqK (IF f) []) w1) := fun w1 u => kids_seq [] x f w1 _ none 0 (Nx.up hx u) (hv.up u) hn.hf (by decide) (fun _ _ _ h => by cases h) (fun _ _ _ _ h => by cases h)
  obtain ⟨hb, hhb⟩ : ∃ hb, numB x 0 0 = hb := ⟨_, rfl⟩
  obtain ⟨tb, htb⟩ : ∃ tb, seqK (IF f) [] = tb := ⟨_, rfl⟩
  rw [hhb, htb]
  rw [hhb] at cH
  rw [htb] at cT
  clear HE hhb htb hv hk hn hx hq c1 c2 c3 c4 hcc hkid
  cases hb
  · go_enter Try.func37, Try.ntmps37
    go_wp2_with fail
    refine cH.mono ?_
    rintro e w1 ⟨rfl, u1⟩
    go_wp2_with fail
    go_ret
    exact tel_ret rfl u1
  · go_enter Try.func37, Try.ntmps37
    go_wp2_with fail
    refine cH.mono ?_
    rintro e w1 ⟨rfl, u1⟩
    go_wp2_with fail
    refine (cT w1 u1).mono ?_
    rintro e w2 ⟨rfl, u2⟩
    go_wp2_with fail
    go_ret
    exact tel_ret (by cases tb <;> rfl) (Up.trans (u1) u2)
set_option maxHeartbeats 3200000 in
set_option maxRecDepth 100000 in
theorem isType_2 (x : Nod) (f : Fr) (w : World) (v : Value) (hk : x.k = 2) (hn : Nd1 x f) (hx : B.Nx w) (hv : HasT w v (some (x, f))) : Calls Try.prog 37 #[v] w (TelB (isT B.nck B.long (x, f) 1) w) := by
  have HE : Hid (isT B.nck B.long (x, f) 1 = (numB x 0 0 && seqK (IF f) [])) := Lib.hid (by show isX _ _ x (IF f) 1 = _; rw [isX_one hk (by rfl), hd_num, seq_K _ _ (by rfl)]; rfl)
  rw [HE.out]
  obtain ⟨q, p, A, c', rfl, hq, c0, c1, c2, c3, c4, hcc, hkid⟩ := InT.open hv
  rw [hk] at c0
  have cH := plain_any x f w _ hv
  have cT : ∀ w1, Up w w1 → Calls Try.prog 50 #[.pointer (some ⟨q, p, none⟩), .slice none 0 0] w1 (TelB (seqK (IF f) []) w1) := fun w1 u => kids_seq [] x f w1 _ none 0 (Nx.up hx u) (hv.up u) hn.hf (by decide) (fun _ _ _ h => by cases h) (fun _ _ _ _ h => by cases h)
  obtain ⟨hb, hhb⟩ : ∃ hb, numB x 0 0 = hb := ⟨_, rfl⟩
  obtain ⟨tb, htb⟩ : ∃ tb, seqK (IF f) [] = tb := ⟨_, rfl⟩
  rw [hhb, htb]
  rw [hhb] at cH
  rw [htb] at cT
  clear HE hhb htb hv hk hn hx hq c1 c2 c3 c4 hcc hkid
  cases hb
  · go_enter Try.func37, Try.ntmps37
    go_wp2_with fail
    refine cH.mono ?_
    rintro e w1 ⟨rfl, u1⟩
    go_wp2_with fail
    go_ret
    exact tel_ret rfl u1
  · go_enter Try.func37, Try.ntmps37
    go_wp2_with fail
    refine cH.mono ?_
    rintro e w1 ⟨rfl, u1⟩
    go_wp2_with fail
    refine (cT w1 u1).mono ?_
    rintro e w2 ⟨rfl, u2⟩
    go_wp2_with fail
    go_ret
    exact tel_ret (by cases tb <;> rfl) (Up.trans (u1) u2)
set_option maxHeartbeats 3200000 in
set_option maxRecDepth 100000 in
theorem isType_3 (x : Nod) (f : Fr) (w : World) (v : Value) (hk : x.k = 3) (hn : Nd1 x f) (hx : B.Nx w) (hv : HasT w v (some (x, f))) : Calls Try.prog 37 #[v] w (TelB (isT B.nck B.long (x, f) 1) w) := by
  have HE : Hid (isT B.nck B.long (x, f) 1 = (numB x 0 0 && seqK (IF f) [])) := Lib.hid (by show isX _ _ x (IF f) 1 = _; rw [isX_one hk (by rfl), hd_num, seq_K _ _ (by rfl)]; rfl)
  rw [HE.out]
  obtain ⟨q, p, A, c', rfl, hq, c0, c1, c2, c3, c4, hcc, hkid⟩ := InT.open hv
  rw [hk] at c0
  have cH := plain_any x f w _ hv
  have cT : ∀ w1, Up w w1 → Calls Try.prog 50 #[.pointer (some ⟨q, p, none⟩), .slice none 0 0] w1 (TelB (seqK (IF f) []) w1) := fun w1 u => kids_seq [] x f w1 _ none 0 (Nx.up hx u) (hv.up u) hn.hf (by decide) (fun _ _ _ h => by cases h) (fun _ _ _ _ h => by cases h)
  obtain ⟨hb, hhb⟩ : ∃ hb, numB x 0 0 = hb := ⟨_, rfl⟩
  obtain ⟨tb, htb⟩ : ∃ tb, seqK (IF f) [] = tb := ⟨_, rfl⟩
  rw [hhb, htb]
  rw [hhb] at cH
  rw [htb] at cT
  clear HE hhb htb hv hk hn hx hq c1 c2 c3 c4 hcc hkid
  cases hb
  · go_enter Try.func37, Try.ntmps37
    go_wp2_with fail
    refine cH.mono ?_
    rintro e w1 ⟨rfl, u1⟩
    go_wp2_with fail
    go_ret
    exact tel_ret rfl u1
  · go_enter Try.func37, Try.ntmps37
    go_wp2_with fail
    refine cH.mono ?_
    rintro e w1 ⟨rfl, u1⟩
    go_wp2_with fail
    refine (cT w1 u1).mono ?_
    rintro e w2 ⟨rfl, u2⟩
    go_wp2_with fail
    go_ret
    exact tel_ret (by cases tb <;> rfl) (Up.trans (u1) u2)
set_option maxHeartbeats 3200000 in
set_option maxRecDepth 100000 in
theorem isType_4 (x : Nod) (f : Fr) (w : World) (v : Value) (hk : x.k = 4) (hn : Nd1 x f) (hx : B.Nx w) (hv : HasT w v (some (x, f))) : Calls Try.prog 37 #[v] w (TelB (isT B.nck B.long (x, f) 1) w) := by
  have HE : Hid (isT B.nck B.long (x, f) 1 = (texB x B.long isEmp && seqK (IF f) [])) := Lib.hid (by show isX _ _ x (IF f) 1 = _; rw [isX_one hk (by rfl), hd_tex (A := B.long) (M := isEmp) (fun _ => rfl) (fun _ => rfl), seq_K _ _ (by rfl)]; rfl)
  rw [HE.out]
  obtain ⟨q, p, A, c', rfl, hq, c0, c1, c2, c3, c4, hcc, hkid⟩ := InT.open hv
  rw [hk] at c0
  have cH := longd_any x f w _ hv hn.hs.1 hx
  have cT : ∀ w1, Up w w1 → Calls Try.prog 50 #[.pointer (some ⟨q, p, none⟩), .slice none 0 0] w1 (TelB (seqK (IF f) []) w1) := fun w1 u => kids_seq [] x f w1 _ none 0 (Nx.up hx u) (hv.up u) hn.hf (by decide) (fun _ _ _ h => by cases h) (fun _ _ _ _ h => by cases h)
  obtain ⟨hb, hhb⟩ : ∃ hb, texB x B.long isEmp = hb := ⟨_, rfl⟩
  obtain ⟨tb, htb⟩ : ∃ tb, seqK (IF f) [] = tb := ⟨_, rfl⟩
  rw [hhb, htb]
  rw [hhb] at cH
  rw [htb] at cT
  clear HE hhb htb hv hk hn hx hq c1 c2 c3 c4 hcc hkid
  cases hb
  · go_enter Try.func37, Try.ntmps37
    go_wp2_with fail
    refine cH.mono ?_
    rintro e w1 ⟨rfl, u1⟩
    go_wp2_with fail
    go_ret
    exact tel_ret rfl u1
  · go_enter Try.func37, Try.ntmps37
    go_wp2_with fail
    refine cH.mono ?_
    rintro e w1 ⟨rfl, u1⟩
    go_wp2_with fail
    refine (cT w1 u1).mono ?_
    rintro e w2 ⟨rfl, u2⟩
    go_wp2_with fail
    go_ret
    exact tel_ret (by cases tb <;> rfl) (Up.trans (u1) u2)
set_option maxHeartbeats 3200000 in
set_option maxRecDepth 100000 in
theorem isType_5 (x : Nod) (f : Fr) (w : World) (v : Value) (hk : x.k = 5) (hn : Nd1 x f) (hx : B.Nx w) (hv : HasT w v (some (x, f))) : Calls Try.prog 37 #[v] w (TelB (isT B.nck B.long (x, f) 1) w) := by
  have HE : Hid (isT B.nck B.long (x, f) 1 = (numB x 0 0 && seqK (IF f) [1, 1])) := Lib.hid (by show isX _ _ x (IF f) 1 = _; rw [isX_one hk (by rfl), hd_num, seq_K _ _ (by rfl)]; rfl)
  rw [HE.out]
  obtain ⟨q, p, A, c', rfl, hq, c0, c1, c2, c3, c4, hcc, hkid⟩ := InT.open hv
  rw [hk] at c0
  have cH := plain_any x f w _ hv
  have cT : ∀ w1, Up w w1 → Calls Try.prog 50 #[.pointer (some ⟨q, p, none⟩), .slice (some ⟨w1.heap.size, 0, none⟩) 2 2] (w1.alloc (.cells #[.func (.func 37) #[] #[], .func (.func 37) #[] #[]] 71)) (TelB (seqK (IF f) [1, 1]) (w1.alloc (.cells #[.func (.func 37) #[] #[], .func (.func 37) #[] #[]] 71))) := fun w1 u => kids_seq [1, 1] x f _ _ _ _ (Nx.up hx (u.alloc _)) (hv.up (u.alloc _)) hn.hf (by decide) (fns_lit (fnsC [1, 1]) (heap_alloc_new w1 _)) (good_kids hn (by decide))
  obtain ⟨hb, hhb⟩ : ∃ hb, numB x 0 0 = hb := ⟨_, rfl⟩
  obtain ⟨tb, htb⟩ : ∃ tb, seqK (IF f) [1, 1] = tb := ⟨_, rfl⟩
  rw [hhb, htb]
  rw [hhb] at cH
  rw [htb] at cT
  clear HE hhb htb hv hk hn hx hq c1 c2 c3 c4 hcc hkid
  cases hb
  · go_enter Try.func37, Try.ntmps37
    go_wp2_with fail
    refine cH.mono ?_
    rintro e w1 ⟨rfl, u1⟩
    go_wp2_with fail
    go_ret
    exact tel_ret rfl u1
  · go_enter Try.func37, Try.ntmps37
    go_wp2_with fail
    refine cH.mono ?_
    rintro e w1 ⟨rfl, u1⟩
    go_wp2_with fail
    refine (cT w1 u1).mono ?_
    rintro e w2 ⟨rfl, u2⟩
    go_wp2_with fail
    go_ret
    exact tel_ret (by cases tb <;> rfl) (Up.trans (u1.alloc _) u2)
set_option maxHeartbeats 3200000 in
set_option maxRecDepth 100000 in
theorem isType_6 (x : Nod) (f : Fr) (w : World) (v : Value) (hk : x.k = 6) (hn : Nd1 x f) (hx : B.Nx w) (hv : HasT w v (some (x, f))) : Calls Try.prog 37 #[v] w (TelB (isT B.nck B.long (x, f) 1) w) := by
  have HE : Hid (isT B.nck B.long (x, f) 1 = (numB x 0 0 && seqK (IF f) [1, 1])) := Lib.hid (by show isX _ _ x (IF f) 1 = _; rw [isX_one hk (by rfl), hd_num, seq_K _ _ (by rfl)]; rfl)
  rw [HE.out]
  obtain ⟨q, p, A, c', rfl, hq, c0, c1, c2, c3, c4, hcc, hkid⟩ := InT.open hv
  rw [hk] at c0
  have cH := plain_any x f w _ hv
  have cT : ∀ w1, Up w w1 → Calls Try.prog 50 #[.pointer (some ⟨q, p, none⟩), .slice (some ⟨w1.heap.size, 0, none⟩) 2 2] (w1.alloc (.cells #[.func (.func 37) #[] #[], .func (.func 37) #[] #[]] 71)) (TelB (seqK (IF f) [1, 1]) (w1.alloc (.cells #[.func (.func 37) #[] #[], .func (.func 37) #[] #[]] 71))) := fun w1 u => kids_seq [1, 1] x f _ _ _ _ (Nx.up hx (u.alloc _)) (hv.up (u.alloc _)) hn.hf (by decide) (fns_lit (fnsC [1, 1]) (heap_alloc_new w1 _)) (good_kids hn (by decide))
  obtain ⟨hb, hhb⟩ : ∃ hb, numB x 0 0 = hb := ⟨_, rfl⟩
  obtain ⟨tb, htb⟩ : ∃ tb, seqK (IF f) [1, 1] = tb := ⟨_, rfl⟩
  rw [hhb, htb]
  rw [hhb] at cH
  rw [htb] at cT
  clear HE hhb htb hv hk hn hx hq c1 c2 c3 c4 hcc hkid
  cases hb
  · go_enter Try.func37, Try.ntmps37
    go_wp2_with fail
    refine cH.mono ?_
    rintro e w1 ⟨rfl, u1⟩
    go_wp2_with fail
    go_ret
    exact tel_ret rfl u1
  · go_enter Try.func37, Try.ntmps37
    go_wp2_with fail
    refine cH.mono ?_
    rintro e w1 ⟨rfl, u1⟩
    go_wp2_with fail
    refine (cT w1 u1).mono ?_
    rintro e w2 ⟨rfl, u2⟩
    go_wp2_with fail
    go_ret
    exact tel_ret (by cases tb <;> rfl) (Up.trans (u1.alloc _) u2)
set_option maxHeartbeats 3200000 in
set_option maxRecDepth 100000 in
theorem isType_7 (x : Nod) (f : Fr) (w : World) (v : Value) (hk : x.k = 7) (hn : Nd1 x f) (hx : B.Nx w) (hv : HasT w v (some (x, f))) : Calls Try.prog 37 #[v] w (TelB (isT B.nck B.long (x, f) 1) w) := by
  have HE : Hid (isT B.nck B.long (x, f) 1 = (texB x B.nck isEmp && seqOk (IF f) [67])) := Lib.hid (by show isX _ _ x (IF f) 1 = _; rw [isX_one hk (by rfl), hd_tex (A := B.nck) (M := isEmp) (fun _ => rfl) (fun _ => rfl)])
  rw [HE.out]
  obtain ⟨q, p, A, c', rfl, hq, c0, c1, c2, c3, c4, hcc, hkid⟩ := InT.open hv
  rw [hk] at c0
  have cH := named_any x f w _ hv hn.hs.1
  have cT : ∀ w1, Up w w1 → Calls Try.prog 59 #[.pointer (some ⟨q, p, none⟩)] w1 (TelB (seqOk (IF f) [67]) w1) := fun w1 u => pcons_any x f w1 _ (Nx.up hx u) (hv.up u) hn.hs hn.hf fun i t h => ⟨(hn.ih i t h).ln, (hn.ih i t h).kk⟩
  obtain ⟨hb, hhb⟩ : ∃ hb, texB x B.nck isEmp = hb := ⟨_, rfl⟩
  obtain ⟨tb, htb⟩ : ∃ tb, seqOk (IF f) [67] = tb := ⟨_, rfl⟩
  rw [hhb, htb]
  rw [hhb] at cH
  rw [htb] at cT
  clear HE hhb htb hv hk hn hx hq c1 c2 c3 c4 hcc hkid
  cases hb
  · go_enter Try.func37, Try.ntmps37
    go_wp2_with fail
    refine cH.mono ?_
    rintro e w1 ⟨rfl, u1⟩
    go_wp2_with fail
    go_ret
    exact tel_ret rfl u1
  · go_enter Try.func37, Try.ntmps37
    go_wp2_with fail
    refine cH.mono ?_
    rintro e w1 ⟨rfl, u1⟩
    go_wp2_with fail
    refine (cT w1 u1).mono ?_
    rintro e w2 ⟨rfl, u2⟩
    go_wp2_with fail
    go_ret
    exact tel_ret (by cases tb <;> rfl) (Up.trans (u1) u2)
theorem rows_isType : ∀ r ∈ RWS, r.cat = 1 → r.kind ∈ [(1 : Int), (2 : Int), (3 : Int), (4 : Int), (5 : Int), (6 : Int), (7 : Int)] := by decide
set_option maxHeartbeats 3200000 in
set_option maxRecDepth 100000 in
theorem isType_none (x : Nod) (f : Fr) (w : World) (v : Value) (n1 : ¬ x.k = 1) (n2 : ¬ x.k = 2) (n3 : ¬ x.k = 3) (n4 : ¬ x.k = 4) (n5 : ¬ x.k = 5) (n6 : ¬ x.k = 6) (n7 : ¬ x.k = 7) (hv : HasT w v (some (x, f))) : Calls Try.prog 37 #[v] w (TelB (isT B.nck B.long (x, f) 1) w) := by
  have HE : Hid (isT B.nck B.long (x, f) 1 = false) := Lib.hid (isX_none fun r hr hc e => by have := rows_isType r hr hc; rw [e] at this; simp only [List.mem_cons, List.not_mem_nil, or_false] at this; omega)
  rw [HE.out]
  obtain ⟨q, p, A, c', rfl, hq, c0, c1, c2, c3, c4, hcc, hkid⟩ := InT.open hv
  clear hv HE hq c1 c2 c3 c4 hcc hkid
  go_enter Try.func37, Try.ntmps37
  go_wp2_with fail
  go_ret
  exact tel_ret rfl (Up.refl _)
theorem isType_any (x : Nod) (f : Fr) (hn : Nd1 x f) : TelAt 37 (isT B.nck B.long (x, f) 1) (x, f) := fun w v hx hv => by
  by_cases n1 : x.k = 1
  · exact isType_1 x f w v n1 hn hx hv
  by_cases n2 : x.k = 2
  · exact isType_2 x f w v n2 hn hx hv
  by_cases n3 : x.k = 3
  · exact isType_3 x f w v n3 hn hx hv
  by_cases n4 : x.k = 4
  · exact isType_4 x f w v n4 hn hx hv
  by_cases n5 : x.k = 5
  · exact isType_5 x f w v n5 hn hx hv
  by_cases n6 : x.k = 6
  · exact isType_6 x f w v n6 hn hx hv
  by_cases n7 : x.k = 7
  · exact isType_7 x f w v n7 hn hx hv
  exact isType_none x f w v n1 n2 n3 n4 n5 n6 n7 hv
set_option maxHeartbeats 3200000 in
set_option maxRecDepth 100000 in
theorem isSig_50 (x : Nod) (f : Fr) (w : World) (v : Value) (hk : x.k = 50) (hn : Nd1 x f) (hx : B.Nx w) (hv : HasT w v (some (x, f))) : Calls Try.prog 39 #[v] w (TelB (isT B.nck B.long (x, f) 4) w) := by
  have HE : Hid (isT B.nck B.long (x, f) 4 = (numB x 0 0 && rowB [] 0 (fun i => i.is 5) (IF f))) := Lib.hid (by show isX _ _ x (IF f) 4 = _; rw [isX_one hk (by rfl), hd_num, star_112])
  rw [HE.out]
  obtain ⟨q, p, A, c', rfl, hq, c0, c1, c2, c3, c4, hcc, hkid⟩ := InT.open hv
  rw [hk] at c0
  have cH := plain_any x f w _ hv
  have cT : ∀ w1, Up w w1 → Calls Try.prog 54 #[.pointer (some ⟨q, p, none⟩), .int .i64 0, .func (.func 40) #[] #[], .slice none 0 0] w1 (TelB (rowB [] 0 (fun i => i.is 5) (IF f)) w1) := fun w1 u => row_seq [] 0 40 (fun i => i.is 5) x f w1 _ none 0 (fun _ _ => by kernel_rfl) (by omega) (Nx.up hx u) (hv.up u) hn.hf (by decide) (.inl ⟨rfl, rfl⟩) (fun _ _ _ _ h => by cases h) (fun i t h => (hn.ih i t h).a5)
  obtain ⟨hb, hhb⟩ : ∃ hb, numB x 0 0 = hb := ⟨_, rfl⟩
  obtain ⟨tb, htb⟩ : ∃ tb, rowB [] 0 (fun i => i.is 5) (IF f) = tb := ⟨_, rfl⟩
  rw [hhb, htb]
  rw [hhb] at cH
  rw [htb] at cT
  clear HE hhb htb hv hk hn hx hq c1 c2 c3 c4 hcc hkid
  cases hb
  · go_enter Try.func39, Try.ntmps39
    go_wp2_with fail
    refine cH.mono ?_
    rintro e w1 ⟨rfl, u1⟩
    go_wp2_with fail
    go_ret
    exact tel_ret rfl u1
  · go_enter Try.func39, Try.ntmps39
    go_wp2_with fail
    refine cH.mono ?_
    rintro e w1 ⟨rfl, u1⟩
    go_wp2_with fail
    refine (cT w1 u1).mono ?_
    rintro e w2 ⟨rfl, u2⟩
    go_wp2_with fail
    go_ret
    exact tel_ret (by cases tb <;> rfl) (Up.trans (u1) u2)
set_option maxHeartbeats 3200000 in
set_option maxRecDepth 100000 in
theorem isSig_51 (x : Nod) (f : Fr) (w : World) (v : Value) (hk : x.k = 51) (hn : Nd1 x f) (hx : B.Nx w) (hv : HasT w v (some (x, f))) : Calls Try.prog 39 #[v] w (TelB (isT B.nck B.long (x, f) 4) w) := by
  have HE : Hid (isT B.nck B.long (x, f) 4 = (texB x B.nck isEmp && seqK (IF f) [])) := Lib.hid (by show isX _ _ x (IF f) 4 = _; rw [isX_one hk (by rfl), hd_tex (A := B.nck) (M := isEmp) (fun _ => rfl) (fun _ => rfl), seq_K _ _ (by rfl)]; rfl)
  rw [HE.out]
  obtain ⟨q, p, A, c', rfl, hq, c0, c1, c2, c3, c4, hcc, hkid⟩ := InT.open hv
  rw [hk] at c0
  have cH := named_any x f w _ hv hn.hs.1
  have cT : ∀ w1, Up w w1 → Calls Try.prog 50 #[.pointer (some ⟨q, p, none⟩), .slice none 0 0] w1 (TelB (seqK (IF f) []) w1) := fun w1 u => kids_seq [] x f w1 _ none 0 (Nx.up hx u) (hv.up u) hn.hf (by decide) (fun _ _ _ h => by cases h) (fun _ _ _ _ h => by cases h)
  obtain ⟨hb, hhb⟩ : ∃ hb, texB x B.nck isEmp = hb := ⟨_, rfl⟩
  obtain ⟨tb, htb⟩ : ∃ tb, seqK (IF f) [] = tb := ⟨_, rfl⟩
  rw [hhb, htb]
  rw [hhb] at cH
  rw [htb] at cT
  clear HE hhb htb hv hk hn hx hq c1 c2 c3 c4 hcc hkid
  cases hb
  · go_enter Try.func39, Try.ntmps39
    go_wp2_with fail
    refine cH.mono ?_
    rintro e w1 ⟨rfl, u1⟩
    go_wp2_with fail
    go_ret
    exact tel_ret rfl u1
  · go_enter Try.func39, Try.ntmps39
    go_wp2_with fail
    refine cH.mono ?_
    rintro e w1 ⟨rfl, u1⟩
    go_wp2_with fail
    refine (cT w1 u1).mono ?_
    rintro e w2 ⟨rfl, u2⟩
    go_wp2_with fail
    go_ret
    exact tel_ret (by cases tb <;> rfl) (Up.trans (u1) u2)
set_option maxHeartbeats 3200000 in
set_option maxRecDepth 100000 in
theorem isSig_52 (x : Nod) (f : Fr) (w : World) (v : Value) (hk : x.k = 52) (hn : Nd1 x f) (hx : B.Nx w) (hv : HasT w v (some (x, f))) : Calls Try.prog 39 #[v] w (TelB (isT B.nck B.long (x, f) 4) w) := by
  have HE : Hid (isT B.nck B.long (x, f) 4 = (texB x B.long isEmp && seqK (IF f) [4, 1])) := Lib.hid (by show isX _ _ x (IF f) 4 = _; rw [isX_one hk (by rfl), hd_tex (A := B.long) (M := isEmp) (fun _ => rfl) (fun _ => rfl), seq_K _ _ (by rfl)]; rfl)
  rw [HE.out]
  obtain ⟨q, p, A, c', rfl, hq, c0, c1, c2, c3, c4, hcc, hkid⟩ := InT.open hv
  rw [hk] at c0
  have cH := longd_any x f w _ hv hn.hs.1 hx
  have cT : ∀ w1, Up w w1 → Calls Try.prog 50 #[.pointer (some ⟨q, p, none⟩), .slice (some ⟨w1.heap.size, 0, none⟩) 2 2] (w1.alloc (.cells #[.func (.func 39) #[] #[], .func (.func 37) #[] #[]] 71)) (TelB (seqK (IF f) [4, 1]) (w1.alloc (.cells #[.func (.func 39) #[] #[], .func (.func 37) #[] #[]] 71))) := fun w1 u => kids_seq [4, 1] x f _ _ _ _ (Nx.up hx (u.alloc _)) (hv.up (u.alloc _)) hn.hf (by decide) (fns_lit (fnsC [4, 1]) (heap_alloc_new w1 _)) (good_kids hn (by decide))
  obtain ⟨hb, hhb⟩ : ∃ hb, texB x B.long isEmp = hb := ⟨_, rfl⟩
  obtain ⟨tb, htb⟩ : ∃ tb, seqK (IF f) [4, 1] = tb := ⟨_, rfl⟩
  rw [hhb, htb]
  rw [hhb] at cH
  rw [htb] at cT
  clear HE hhb htb hv hk hn hx hq c1 c2 c3 c4 hcc hkid
  cases hb
  · go_enter Try.func39, Try.ntmps39
    go_wp2_with fail
    refine cH.mono ?_
    rintro e w1 ⟨rfl, u1⟩
    go_wp2_with fail
    go_ret
    exact tel_ret rfl u1
  · go_enter Try.func39, Try.ntmps39
    go_wp2_with fail
    refine cH.mono ?_
    rintro e w1 ⟨rfl, u1⟩
    go_wp2_with fail
    refine (cT w1 u1).mono ?_
    rintro e w2 ⟨rfl, u2⟩
    go_wp2_with fail
    go_ret
    exact tel_ret (by cases tb <;> rfl) (Up.trans (u1.alloc _) u2)
theorem rows_isSig : ∀ r ∈ RWS, r.cat = 4 → r.kind ∈ [(50 : Int), (51 : Int), (52 : Int)] := by decide
set_option maxHeartbeats 3200000 in
set_option maxRecDepth 100000 in
theorem isSig_none (x : Nod) (f : Fr) (w : World) (v : Value) (n50 : ¬ x.k = 50) (n51 : ¬ x.k = 51) (n52 : ¬ x.k = 52) (hv : HasT w v (some (x, f))) : Calls Try.prog 39 #[v] w (TelB (isT B.nck B.long (x, f) 4) w) := by
  have HE : Hid (isT B.nck B.long (x, f) 4 = false) := Lib.hid (isX_none fun r hr hc e => by have := rows_isSig r hr hc; rw [e] at this; simp only [List.mem_cons, List.not_mem_nil, or_false] at this; omega)
  rw [HE.out]
  obtain ⟨q, p, A, c', rfl, hq, c0, c1, c2, c3, c4, hcc, hkid⟩ := InT.open hv
  clear hv HE hq c1 c2 c3 c4 hcc hkid
  go_enter Try.func39, Try.ntmps39
  go_wp2_with fail
  go_ret
  exact tel_ret rfl (Up.refl _)
theorem isSig_any (x : Nod) (f : Fr) (hn : Nd1 x f) : TelAt 39 (isT B.nck B.long (x, f) 4) (x, f) := fun w v hx hv => by
  by_cases n50 : x.k = 50
  · exact isSig_50 x f w v n50 hn hx hv
  by_cases n51 : x.k = 51
  · exact isSig_51 x f w v n51 hn hx hv
  by_cases n52 : x.k = 52
  · exact isSig_52 x f w v n52 hn hx hv
  exact isSig_none x f w v n50 n51 n52 hv
end Go.Proofs.Ytoejegndbcbkmaa
/-
  Layer 5, the program's isExpr: what they tell of a node, Kind by Kind (written by gsh.py).
-/
namespace Go.Proofs.Ytoejegndbcbkmaa
open Go.RowKit

set_option maxHeartbeats 3200000 in
set_option maxRecDepth 100000 in
theorem isExpr_20 (x : Nod) (f : Fr) (w : World) (v : Value) (hk : x.k = 20) (hn : Nd1 x f) (hx : B.Nx w) (hv : HasT w v (some (x, f))) : Calls Try.prog 30 #[v] w (TelB (isT B.nck B.long (x, f) 2) w) := by
  have HE : Hid (isT B.nck B.long (x, f) 2 = (numB x (-1073741824) 1073741824 && seqK (IF f) [])) := Lib.hid (by show isX _ _ x (IF f) 2 = _; rw [isX_one hk (by rfl), hd_num, seq_K _ _ (by rfl)]; rfl)
  rw [HE.out]
  obtain ⟨q, p, A, c', rfl, hq, c0, c1, c2, c3, c4, hcc, hkid⟩ := InT.open hv
  rw [hk] at c0
  have cH := number_any x f (-1073741824) 1073741824 w _ hv
  have cT : ∀ w1, Up w w1 → Calls Try.prog 50 #[.pointer (some ⟨q, p, none⟩), .slice none 0 0] w1 (TelB (seqK (IF f) []) w1) := fun w1 u => kids_seq [] x f w1 _ none 0 (Nx.up hx u) (hv.up u) hn.hf (by decide) (fun _ _ _ h => by cases h) (fun _ _ _ _ h => by cases h)
  obtain ⟨hb, hhb⟩ : ∃ hb, numB x (-1073741824) 1073741824 = hb := ⟨_, rfl⟩
  obtain ⟨tb, htb⟩ : ∃ tb, seqK (IF f) [] = tb := ⟨_, rfl⟩
  rw [hhb, htb]
  rw [hhb] at cH
  rw [htb] at cT
  clear HE hhb htb hv hk hn hx hq c1 c2 c3 c4 hcc hkid
  cases hb
  · go_enter Try.func30, Try.ntmps30
    go_wp2_with fail
    refine cH.mono ?_
    rintro e w1 ⟨rfl, u1⟩
    go_wp2_with fail
    go_ret
    exact tel_ret rfl u1
  · go_enter Try.func30, Try.ntmps30
    go_wp2_with fail
    refine cH.mono ?_
    rintro e w1 ⟨rfl, u1⟩
    go_wp2_with fail
    refine (cT w1 u1).mono ?_
    rintro e w2 ⟨rfl, u2⟩
    go_wp2_with fail
    go_ret
    exact tel_ret (by cases tb <;> rfl) (Up.trans (u1) u2)
set_option maxHeartbeats 3200000 in
set_option maxRecDepth 100000 in
theorem isExpr_21 (x : Nod) (f : Fr) (w : World) (v : Value) (hk : x.k = 21) (hn : Nd1 x f) (hx : B.Nx w) (hv : HasT w v (some (x, f))) : Calls Try.prog 30 #[v] w (TelB (isT B.nck B.long (x, f) 2) w) := by
  have HE : Hid (isT B.nck B.long (x, f) 2 = (numB x 0 1 && seqK (IF f) [])) := Lib.hid (by show isX _ _ x (IF f) 2 = _; rw [isX_one hk (by rfl), hd_num, seq_K _ _ (by rfl)]; rfl)
  rw [HE.out]
  obtain ⟨q, p, A, c', rfl, hq, c0, c1, c2, c3, c4, hcc, hkid⟩ := InT.open hv
  rw [hk] at c0
  have cH := number_any x f 0 1 w _ hv
  have cT : ∀ w1, Up w w1 → Calls Try.prog 50 #[.pointer (some ⟨q, p, none⟩), .slice none 0 0] w1 (TelB (seqK (IF f) []) w1) := fun w1 u => kids_seq [] x f w1 _ none 0 (Nx.up hx u) (hv.up u) hn.hf (by decide) (fun _ _ _ h => by cases h) (fun _ _ _ _ h => by cases h)
  obtain ⟨hb, hhb⟩ : ∃ hb, numB x 0 1 = hb := ⟨_, rfl⟩
  obtain ⟨tb, htb⟩ : ∃ tb, seqK (IF f) [] = tb := ⟨_, rfl⟩
  rw [hhb, htb]
  rw [hhb] at cH
  rw [htb] at cT
  clear HE hhb htb hv hk hn hx hq c1 c2 c3 c4 hcc hkid
  cases hb
  · go_enter Try.func30, Try.ntmps30
    go_wp2_with fail
    refine cH.mono ?_
    rintro e w1 ⟨rfl, u1⟩
    go_wp2_with fail
    go_ret
    exact tel_ret rfl u1
  · go_enter Try.func30, Try.ntmps30
    go_wp2_with fail
    refine cH.mono ?_
    rintro e w1 ⟨rfl, u1⟩
    go_wp2_with fail
    refine (cT w1 u1).mono ?_
    rintro e w2 ⟨rfl, u2⟩
    go_wp2_with fail
    go_ret
    exact tel_ret (by cases tb <;> rfl) (Up.trans (u1) u2)
set_option maxHeartbeats 3200000 in
set_option maxRecDepth 100000 in
theorem isExpr_22 (x : Nod) (f : Fr) (w : World) (v : Value) (hk : x.k = 22) (hn : Nd1 x f) (hx : B.Nx w) (hv : HasT w v (some (x, f))) : Calls Try.prog 30 #[v] w (TelB (isT B.nck B.long (x, f) 2) w) := by
  have HE : Hid (isT B.nck B.long (x, f) 2 = (numB x 0 0 && seqK (IF f) [])) := Lib.hid (by show isX _ _ x (IF f) 2 = _; rw [isX_one hk (by rfl), hd_num, seq_K _ _ (by rfl)]; rfl)
  rw [HE.out]
  obtain ⟨q, p, A, c', rfl, hq, c0, c1, c2, c3, c4, hcc, hkid⟩ := InT.open hv
  rw [hk] at c0
  have cH := plain_any x f w _ hv
  have cT : ∀ w1, Up w w1 → Calls Try.prog 50 #[.pointer (some ⟨q, p, none⟩), .slice none 0 0] w1 (TelB (seqK (IF f) []) w1) := fun w1 u => kids_seq [] x f w1 _ none 0 (Nx.up hx u) (hv.up u) hn.hf (by decide) (fun _ _ _ h => by cases h) (fun _ _ _ _ h => by cases h)
  obtain ⟨hb, hhb⟩ : ∃ hb, numB x 0 0 = hb := ⟨_, rfl⟩
  obtain ⟨tb, htb⟩ : ∃ tb, seqK (IF f) [] = tb := ⟨_, rfl⟩
  rw [hhb, htb]
  rw [hhb] at cH
  rw [htb] at cT
  clear HE hhb htb hv hk hn hx hq c1 c2 c3 c4 hcc hkid
  cases hb
  · go_enter Try.func30, Try.ntmps30
    go_wp2_with fail
    refine cH.mono ?_
    rintro e w1 ⟨rfl, u1⟩
    go_wp2_with fail
    go_ret
    exact tel_ret rfl u1
  · go_enter Try.func30, Try.ntmps30
    go_wp2_with fail
    refine cH.mono ?_
    rintro e w1 ⟨rfl, u1⟩
    go_wp2_with fail
    refine (cT w1 u1).mono ?_
    rintro e w2 ⟨rfl, u2⟩
    go_wp2_with fail
    go_ret
    exact tel_ret (by cases tb <;> rfl) (Up.trans (u1) u2)
set_option maxHeartbeats 3200000 in
set_option maxRecDepth 100000 in
theorem isExpr_23 (x : Nod) (f : Fr) (w : World) (v : Value) (hk : x.k = 23) (hn : Nd1 x f) (hx : B.Nx w) (hv : HasT w v (some (x, f))) : Calls Try.prog 30 #[v] w (TelB (isT B.nck B.long (x, f) 2) w) := by
  have HE : Hid (isT B.nck B.long (x, f) 2 = (texB x B.long isEmp && seqK (IF f) [])) := Lib.hid (by show isX _ _ x (IF f) 2 = _; rw [isX_one hk (by rfl), hd_tex (A := B.long) (M := isEmp) (fun _ => rfl) (fun _ => rfl), seq_K _ _ (by rfl)]; rfl)
  rw [HE.out]
  obtain ⟨q, p, A, c', rfl, hq, c0, c1, c2, c3, c4, hcc, hkid⟩ := InT.open hv
  rw [hk] at c0
  have cH := longd_any x f w _ hv hn.hs.1 hx
  have cT : ∀ w1, Up w w1 → Calls Try.prog 50 #[.pointer (some ⟨q, p, none⟩), .slice none 0 0] w1 (TelB (seqK (IF f) []) w1) := fun w1 u => kids_seq [] x f w1 _ none 0 (Nx.up hx u) (hv.up u) hn.hf (by decide) (fun _ _ _ h => by cases h) (fun _ _ _ _ h => by cases h)
  obtain ⟨hb, hhb⟩ : ∃ hb, texB x B.long isEmp = hb := ⟨_, rfl⟩
  obtain ⟨tb, htb⟩ : ∃ tb, seqK (IF f) [] = tb := ⟨_, rfl⟩
  rw [hhb, htb]
  rw [hhb] at cH
  rw [htb] at cT
  clear HE hhb htb hv hk hn hx hq c1 c2 c3 c4 hcc hkid
  cases hb
  · go_enter Try.func30, Try.ntmps30
    go_wp2_with fail
    refine cH.mono ?_
    rintro e w1 ⟨rfl, u1⟩
    go_wp2_with fail
    go_ret
    exact tel_ret rfl u1
  · go_enter Try.func30, Try.ntmps30
    go_wp2_with fail
    refine cH.mono ?_
    rintro e w1 ⟨rfl, u1⟩
    go_wp2_with fail
    refine (cT w1 u1).mono ?_
    rintro e w2 ⟨rfl, u2⟩
    go_wp2_with fail
    go_ret
    exact tel_ret (by cases tb <;> rfl) (Up.trans (u1) u2)
set_option maxHeartbeats 3200000 in
set_option maxRecDepth 100000 in
theorem isExpr_24 (x : Nod) (f : Fr) (w : World) (v : Value) (hk : x.k = 24) (hn : Nd1 x f) (hx : B.Nx w) (hv : HasT w v (some (x, f))) : Calls Try.prog 30 #[v] w (TelB (isT B.nck B.long (x, f) 2) w) := by
  have HE : Hid (isT B.nck B.long (x, f) 2 = (texB x B.nck isEmp && seqK (IF f) [1, 2])) := Lib.hid (by show isX _ _ x (IF f) 2 = _; rw [isX_one hk (by rfl), hd_tex (A := B.nck) (M := isEmp) (fun _ => rfl) (fun _ => rfl), seq_K _ _ (by rfl)]; rfl)
  rw [HE.out]
  obtain ⟨q, p, A, c', rfl, hq, c0, c1, c2, c3, c4, hcc, hkid⟩ := InT.open hv
  rw [hk] at c0
  have cH := named_any x f w _ hv hn.hs.1
  have cT : ∀ w1, Up w w1 → Calls Try.prog 50 #[.pointer (some ⟨q, p, none⟩), .slice (some ⟨w1.heap.size, 0, none⟩) 2 2] (w1.alloc (.cells #[.func (.func 37) #[] #[], .func (.func 30) #[] #[]] 71)) (TelB (seqK (IF f) [1, 2]) (w1.alloc (.cells #[.func (.func 37) #[] #[], .func (.func 30) #[] #[]] 71))) := fun w1 u => kids_seq [1, 2] x f _ _ _ _ (Nx.up hx (u.alloc _)) (hv.up (u.alloc _)) hn.hf (by decide) (fns_lit (fnsC [1, 2]) (heap_alloc_new w1 _)) (good_kids hn (by decide))
  obtain ⟨hb, hhb⟩ : ∃ hb, texB x B.nck isEmp = hb := ⟨_, rfl⟩
  obtain ⟨tb, htb⟩ : ∃ tb, seqK (IF f) [1, 2] = tb := ⟨_, rfl⟩
  rw [hhb, htb]
  rw [hhb] at cH
  rw [htb] at cT
  clear HE hhb htb hv hk hn hx hq c1 c2 c3 c4 hcc hkid
  cases hb
  · go_enter Try.func30, Try.ntmps30
    go_wp2_with fail
    refine cH.mono ?_
    rintro e w1 ⟨rfl, u1⟩
    go_wp2_with fail
    go_ret
    exact tel_ret rfl u1
  · go_enter Try.func30, Try.ntmps30
    go_wp2_with fail
    refine cH.mono ?_
    rintro e w1 ⟨rfl, u1⟩
    go_wp2_with fail
    refine (cT w1 u1).mono ?_
    rintro e w2 ⟨rfl, u2⟩
    go_wp2_with fail
    go_ret
    exact tel_ret (by cases tb <;> rfl) (Up.trans (u1.alloc _) u2)
set_option maxHeartbeats 3200000 in
set_option maxRecDepth 100000 in
theorem isExpr_25 (x : Nod) (f : Fr) (w : World) (v : Value) (hk : x.k = 25) (hn : Nd1 x f) (hx : B.Nx w) (hv : HasT w v (some (x, f))) : Calls Try.prog 30 #[v] w (TelB (isT B.nck B.long (x, f) 2) w) := by
  have HE : Hid (isT B.nck B.long (x, f) 2 = (numB x 0 0 && seqK (IF f) [2, 2])) := Lib.hid (by show isX _ _ x (IF f) 2 = _; rw [isX_one hk (by rfl), hd_num, seq_K _ _ (by rfl)]; rfl)
  rw [HE.out]
  obtain ⟨q, p, A, c', rfl, hq, c0, c1, c2, c3, c4, hcc, hkid⟩ := InT.open hv
  rw [hk] at c0
  have cH := plain_any x f w _ hv
  have cT : ∀ w1, Up w w1 → Calls Try.prog 50 #[.pointer (some ⟨q, p, none⟩), .slice (some ⟨w1.heap.size, 0, none⟩) 2 2] (w1.alloc (.cells #[.func (.func 30) #[] #[], .func (.func 30) #[] #[]] 71)) (TelB (seqK (IF f) [2, 2]) (w1.alloc (.cells #[.func (.func 30) #[] #[], .func (.func 30) #[] #[]] 71))) := fun w1 u => kids_seq [2, 2] x f _ _ _ _ (Nx.up hx (u.alloc _)) (hv.up (u.alloc _)) hn.hf (by decide) (fns_lit (fnsC [2, 2]) (heap_alloc_new w1 _)) (good_kids hn (by decide))
  obtain ⟨hb, hhb⟩ : ∃ hb, numB x 0 0 = hb := ⟨_, rfl⟩
  obtain ⟨tb, htb⟩ : ∃ tb, seqK (IF f) [2, 2] = tb := ⟨_, rfl⟩
  rw [hhb, htb]
  rw [hhb] at cH
  rw [htb] at cT
  clear HE hhb htb hv hk hn hx hq c1 c2 c3 c4 hcc hkid
  cases hb
  · go_enter Try.func30, Try.ntmps30
    go_wp2_with fail
    refine cH.mono ?_
    rintro e w1 ⟨rfl, u1⟩
    go_wp2_with fail
    go_ret
    exact tel_ret rfl u1
  · go_enter Try.func30, Try.ntmps30
    go_wp2_with fail
    refine cH.mono ?_
    rintro e w1 ⟨rfl, u1⟩
    go_wp2_with fail
    refine (cT w1 u1).mono ?_
    rintro e w2 ⟨rfl, u2⟩
    go_wp2_with fail
    go_ret
    exact tel_ret (by cases tb <;> rfl) (Up.trans (u1.alloc _) u2)
set_option maxHeartbeats 3200000 in
set_option maxRecDepth 100000 in
theorem isExpr_26 (x : Nod) (f : Fr) (w : World) (v : Value) (hk : x.k = 26) (hn : Nd1 x f) (hx : B.Nx w) (hv : HasT w v (some (x, f))) : Calls Try.prog 30 #[v] w (TelB (isT B.nck B.long (x, f) 2) w) := by
  have HE : Hid (isT B.nck B.long (x, f) 2 = (numB x 0 0 && seqK (IF f) [2, 2])) := Lib.hid (by show isX _ _ x (IF f) 2 = _; rw [isX_one hk (by rfl), hd_num, seq_K _ _ (by rfl)]; rfl)
  rw [HE.out]
  obtain ⟨q, p, A, c', rfl, hq, c0, c1, c2, c3, c4, hcc, hkid⟩ := InT.open hv
  rw [hk] at c0
  have cH := plain_any x f w _ hv
  have cT : ∀ w1, Up w w1 → Calls Try.prog 50 #[.pointer (some ⟨q, p, none⟩), .slice (some ⟨w1.heap.size, 0, none⟩) 2 2] (w1.alloc (.cells #[.func (.func 30) #[] #[], .func (.func 30) #[] #[]] 71)) (TelB (seqK (IF f) [2, 2]) (w1.alloc (.cells #[.func (.func 30) #[] #[], .func (.func 30) #[] #[]] 71))) := fun w1 u => kids_seq [2, 2] x f _ _ _ _ (Nx.up hx (u.alloc _)) (hv.up (u.alloc _)) hn.hf (by decide) (fns_lit (fnsC [2, 2]) (heap_alloc_new w1 _)) (good_kids hn (by decide))
  obtain ⟨hb, hhb⟩ : ∃ hb, numB x 0 0 = hb := ⟨_, rfl⟩
  obtain ⟨tb, htb⟩ : ∃ tb, seqK (IF f) [2, 2] = tb := ⟨_, rfl⟩
  rw [hhb, htb]
  rw [hhb] at cH
  rw [htb] at cT
  clear HE hhb htb hv hk hn hx hq c1 c2 c3 c4 hcc hkid
  cases hb
  · go_enter Try.func30, Try.ntmps30
    go_wp2_with fail
    refine cH.mono ?_
    rintro e w1 ⟨rfl, u1⟩
    go_wp2_with fail
    go_ret
    exact tel_ret rfl u1
  · go_enter Try.func30, Try.ntmps30
    go_wp2_with fail
    refine cH.mono ?_
    rintro e w1 ⟨rfl, u1⟩
    go_wp2_with fail
    refine (cT w1 u1).mono ?_
    rintro e w2 ⟨rfl, u2⟩
    go_wp2_with fail
    go_ret
    exact tel_ret (by cases tb <;> rfl) (Up.trans (u1.alloc _) u2)
set_option maxHeartbeats 3200000 in
set_option maxRecDepth 100000 in
theorem isExpr_27 (x : Nod) (f : Fr) (w : World) (v : Value) (hk : x.k = 27) (hn : Nd1 x f) (hx : B.Nx w) (hv : HasT w v (some (x, f))) : Calls Try.prog 30 #[v] w (TelB (isT B.nck B.long (x, f) 2) w) := by
  have HE : Hid (isT B.nck B.long (x, f) 2 = (numB x 0 0 && seqK (IF f) [2])) := Lib.hid (by show isX _ _ x (IF f) 2 = _; rw [isX_one hk (by rfl), hd_num, seq_K _ _ (by rfl)]; rfl)
  rw [HE.out]
  obtain ⟨q, p, A, c', rfl, hq, c0, c1, c2, c3, c4, hcc, hkid⟩ := InT.open hv
  rw [hk] at c0
  have cH := plain_any x f w _ hv
  have cT : ∀ w1, Up w w1 → Calls Try.prog 50 #[.pointer (some ⟨q, p, none⟩), .slice (some ⟨w1.heap.size, 0, none⟩) 1 1] (w1.alloc (.cells #[.func (.func 30) #[] #[]] 71)) (TelB (seqK (IF f) [2]) (w1.alloc (.cells #[.func (.func 30) #[] #[]] 71))) := fun w1 u => kids_seq [2] x f _ _ _ _ (Nx.up hx (u.alloc _)) (hv.up (u.alloc _)) hn.hf (by decide) (fns_lit (fnsC [2]) (heap_alloc_new w1 _)) (good_kids hn (by decide))
  obtain ⟨hb, hhb⟩ : ∃ hb, numB x 0 0 = hb := ⟨_, rfl⟩
  obtain ⟨tb, htb⟩ : ∃ tb, seqK (IF f) [2] = tb := ⟨_, rfl⟩
  rw [hhb, htb]
  rw [hhb] at cH
  rw [htb] at cT
  clear HE hhb htb hv hk hn hx hq c1 c2 c3 c4 hcc hkid
  cases hb
  · go_enter Try.func30, Try.ntmps30
    go_wp2_with fail
    refine cH.mono ?_
    rintro e w1 ⟨rfl, u1⟩
    go_wp2_with fail
    go_ret
    exact tel_ret rfl u1
  · go_enter Try.func30, Try.ntmps30
    go_wp2_with fail
    refine cH.mono ?_
    rintro e w1 ⟨rfl, u1⟩
    go_wp2_with fail
    refine (cT w1 u1).mono ?_
    rintro e w2 ⟨rfl, u2⟩
    go_wp2_with fail
    go_ret
    exact tel_ret (by cases tb <;> rfl) (Up.trans (u1.alloc _) u2)
set_option maxHeartbeats 3200000 in
set_option maxRecDepth 100000 in
theorem isExpr_28 (x : Nod) (f : Fr) (w : World) (v : Value) (hk : x.k = 28) (hn : Nd1 x f) (hx : B.Nx w) (hv : HasT w v (some (x, f))) : Calls Try.prog 30 #[v] w (TelB (isT B.nck B.long (x, f) 2) w) := by
  have HE : Hid (isT B.nck B.long (x, f) 2 = (numB x 0 0 && seqK (IF f) [2])) := Lib.hid (by show isX _ _ x (IF f) 2 = _; rw [isX_one hk (by rfl), hd_num, seq_K _ _ (by rfl)]; rfl)
  rw [HE.out]
  obtain ⟨q, p, A, c', rfl, hq, c0, c1, c2, c3, c4, hcc, hkid⟩ := InT.open hv
  rw [hk] at c0
  have cH := plain_any x f w _ hv
  have cT : ∀ w1, Up w w1 → Calls Try.prog 50 #[.pointer (some ⟨q, p, none⟩), .slice (some ⟨w1.heap.size, 0, none⟩) 1 1] (w1.alloc (.cells #[.func (.func 30) #[] #[]] 71)) (TelB (seqK (IF f) [2]) (w1.alloc (.cells #[.func (.func 30) #[] #[]] 71))) := fun w1 u => kids_seq [2] x f _ _ _ _ (Nx.up hx (u.alloc _)) (hv.up (u.alloc _)) hn.hf (by decide) (fns_lit (fnsC [2]) (heap_alloc_new w1 _)) (good_kids hn (by decide))
  obtain ⟨hb, hhb⟩ : ∃ hb, numB x 0 0 = hb := ⟨_, rfl⟩
  obtain ⟨tb, htb⟩ : ∃ tb, seqK (IF f) [2] = tb := ⟨_, rfl⟩
  rw [hhb, htb]
  rw [hhb] at cH
  rw [htb] at cT
  clear HE hhb htb hv hk hn hx hq c1 c2 c3 c4 hcc hkid
  cases hb
  · go_enter Try.func30, Try.ntmps30
    go_wp2_with fail
    refine cH.mono ?_
    rintro e w1 ⟨rfl, u1⟩
    go_wp2_with fail
    go_ret
    exact tel_ret rfl u1
  · go_enter Try.func30, Try.ntmps30
    go_wp2_with fail
    refine cH.mono ?_
    rintro e w1 ⟨rfl, u1⟩
    go_wp2_with fail
    refine (cT w1 u1).mono ?_
    rintro e w2 ⟨rfl, u2⟩
    go_wp2_with fail
    go_ret
    exact tel_ret (by cases tb <;> rfl) (Up.trans (u1.alloc _) u2)
set_option maxHeartbeats 3200000 in
set_option maxRecDepth 100000 in
theorem isExpr_29 (x : Nod) (f : Fr) (w : World) (v : Value) (hk : x.k = 29) (hn : Nd1 x f) (hx : B.Nx w) (hv : HasT w v (some (x, f))) : Calls Try.prog 30 #[v] w (TelB (isT B.nck B.long (x, f) 2) w) := by
  have HE : Hid (isT B.nck B.long (x, f) 2 = (texB x B.nck isEmp && seqK (IF f) [2, 2])) := Lib.hid (by show isX _ _ x (IF f) 2 = _; rw [isX_one hk (by rfl), hd_tex (A := B.nck) (M := isEmp) (fun _ => rfl) (fun _ => rfl), seq_K _ _ (by rfl)]; rfl)
  rw [HE.out]
  obtain ⟨q, p, A, c', rfl, hq, c0, c1, c2, c3, c4, hcc, hkid⟩ := InT.open hv
  rw [hk] at c0
  have cH := named_any x f w _ hv hn.hs.1
  have cT : ∀ w1, Up w w1 → Calls Try.prog 50 #[.pointer (some ⟨q, p, none⟩), .slice (some ⟨w1.heap.size, 0, none⟩) 2 2] (w1.alloc (.cells #[.func (.func 30) #[] #[], .func (.func 30) #[] #[]] 71)) (TelB (seqK (IF f) [2, 2]) (w1.alloc (.cells #[.func (.func 30) #[] #[], .func (.func 30) #[] #[]] 71))) := fun w1 u => kids_seq [2, 2] x f _ _ _ _ (Nx.up hx (u.alloc _)) (hv.up (u.alloc _)) hn.hf (by decide) (fns_lit (fnsC [2, 2]) (heap_alloc_new w1 _)) (good_kids hn (by decide))
  obtain ⟨hb, hhb⟩ : ∃ hb, texB x B.nck isEmp = hb := ⟨_, rfl⟩
  obtain ⟨tb, htb⟩ : ∃ tb, seqK (IF f) [2, 2] = tb := ⟨_, rfl⟩
  rw [hhb, htb]
  rw [hhb] at cH
  rw [htb] at cT
  clear HE hhb htb hv hk hn hx hq c1 c2 c3 c4 hcc hkid
  cases hb
  · go_enter Try.func30, Try.ntmps30
    go_wp2_with fail
    refine cH.mono ?_
    rintro e w1 ⟨rfl, u1⟩
    go_wp2_with fail
    go_ret
    exact tel_ret rfl u1
  · go_enter Try.func30, Try.ntmps30
    go_wp2_with fail
    refine cH.mono ?_
    rintro e w1 ⟨rfl, u1⟩
    go_wp2_with fail
    refine (cT w1 u1).mono ?_
    rintro e w2 ⟨rfl, u2⟩
    go_wp2_with fail
    go_ret
    exact tel_ret (by cases tb <;> rfl) (Up.trans (u1.alloc _) u2)
set_option maxHeartbeats 3200000 in
set_option maxRecDepth 100000 in
theorem isExpr_30 (x : Nod) (f : Fr) (w : World) (v : Value) (hk : x.k = 30) (hn : Nd1 x f) (hx : B.Nx w) (hv : HasT w v (some (x, f))) : Calls Try.prog 30 #[v] w (TelB (isT B.nck B.long (x, f) 2) w) := by
  have HE : Hid (isT B.nck B.long (x, f) 2 = (numB x 0 0 && seqK (IF f) [2, 2, 2])) := Lib.hid (by show isX _ _ x (IF f) 2 = _; rw [isX_one hk (by rfl), hd_num, seq_K _ _ (by rfl)]; rfl)
  rw [HE.out]
  obtain ⟨q, p, A, c', rfl, hq, c0, c1, c2, c3, c4, hcc, hkid⟩ := InT.open hv
  rw [hk] at c0
  have cH := plain_any x f w _ hv
  have cT : ∀ w1, Up w w1 → Calls Try.prog 50 #[.pointer (some ⟨q, p, none⟩), .slice (some ⟨w1.heap.size, 0, none⟩) 3 3] (w1.alloc (.cells #[.func (.func 30) #[] #[], .func (.func 30) #[] #[], .func (.func 30) #[] #[]] 71)) (TelB (seqK (IF f) [2, 2, 2]) (w1.alloc (.cells #[.func (.func 30) #[] #[], .func (.func 30) #[] #[], .func (.func 30) #[] #[]] 71))) := fun w1 u => kids_seq [2, 2, 2] x f _ _ _ _ (Nx.up hx (u.alloc _)) (hv.up (u.alloc _)) hn.hf (by decide) (fns_lit (fnsC [2, 2, 2]) (heap_alloc_new w1 _)) (good_kids hn (by decide))
  obtain ⟨hb, hhb⟩ : ∃ hb, numB x 0 0 = hb := ⟨_, rfl⟩
  obtain ⟨tb, htb⟩ : ∃ tb, seqK (IF f) [2, 2, 2] = tb := ⟨_, rfl⟩
  rw [hhb, htb]
  rw [hhb] at cH
  rw [htb] at cT
  clear HE hhb htb hv hk hn hx hq c1 c2 c3 c4 hcc hkid
  cases hb
  · go_enter Try.func30, Try.ntmps30
    go_wp2_with fail
    refine cH.mono ?_
    rintro e w1 ⟨rfl, u1⟩
    go_wp2_with fail
    go_ret
    exact tel_ret rfl u1
  · go_enter Try.func30, Try.ntmps30
    go_wp2_with fail
    refine cH.mono ?_
    rintro e w1 ⟨rfl, u1⟩
    go_wp2_with fail
    refine (cT w1 u1).mono ?_
    rintro e w2 ⟨rfl, u2⟩
    go_wp2_with fail
    go_ret
    exact tel_ret (by cases tb <;> rfl) (Up.trans (u1.alloc _) u2)
set_option maxHeartbeats 3200000 in
set_option maxRecDepth 100000 in
theorem isExpr_31 (x : Nod) (f : Fr) (w : World) (v : Value) (hk : x.k = 31) (hn : Nd1 x f) (hx : B.Nx w) (hv : HasT w v (some (x, f))) : Calls Try.prog 30 #[v] w (TelB (isT B.nck B.long (x, f) 2) w) := by
  have HE : Hid (isT B.nck B.long (x, f) 2 = (numB x 1 5 && seqK (IF f) [2, 2])) := Lib.hid (by show isX _ _ x (IF f) 2 = _; rw [isX_one hk (by rfl), hd_num, seq_K _ _ (by rfl)]; rfl)
  rw [HE.out]
  obtain ⟨q, p, A, c', rfl, hq, c0, c1, c2, c3, c4, hcc, hkid⟩ := InT.open hv
  rw [hk] at c0
  have cH := number_any x f 1 5 w _ hv
  have cT : ∀ w1, Up w w1 → Calls Try.prog 50 #[.pointer (some ⟨q, p, none⟩), .slice (some ⟨w1.heap.size, 0, none⟩) 2 2] (w1.alloc (.cells #[.func (.func 30) #[] #[], .func (.func 30) #[] #[]] 71)) (TelB (seqK (IF f) [2, 2]) (w1.alloc (.cells #[.func (.func 30) #[] #[], .func (.func 30) #[] #[]] 71))) := fun w1 u => kids_seq [2, 2] x f _ _ _ _ (Nx.up hx (u.alloc _)) (hv.up (u.alloc _)) hn.hf (by decide) (fns_lit (fnsC [2, 2]) (heap_alloc_new w1 _)) (good_kids hn (by decide))
  obtain ⟨hb, hhb⟩ : ∃ hb, numB x 1 5 = hb := ⟨_, rfl⟩
  obtain ⟨tb, htb⟩ : ∃ tb, seqK (IF f) [2, 2] = tb := ⟨_, rfl⟩
  rw [hhb, htb]
  rw [hhb] at cH
  rw [htb] at cT
  clear HE hhb htb hv hk hn hx hq c1 c2 c3 c4 hcc hkid
  cases hb
  · go_enter Try.func30, Try.ntmps30
    go_wp2_with fail
    refine cH.mono ?_
    rintro e w1 ⟨rfl, u1⟩
    go_wp2_with fail
    go_ret
    exact tel_ret rfl u1
  · go_enter Try.func30, Try.ntmps30
    go_wp2_with fail
    refine cH.mono ?_
    rintro e w1 ⟨rfl, u1⟩
    go_wp2_with fail
    refine (cT w1 u1).mono ?_
    rintro e w2 ⟨rfl, u2⟩
    go_wp2_with fail
    go_ret
    exact tel_ret (by cases tb <;> rfl) (Up.trans (u1.alloc _) u2)
set_option maxHeartbeats 3200000 in
set_option maxRecDepth 100000 in
theorem isExpr_32 (x : Nod) (f : Fr) (w : World) (v : Value) (hk : x.k = 32) (hn : Nd1 x f) (hx : B.Nx w) (hv : HasT w v (some (x, f))) : Calls Try.prog 30 #[v] w (TelB (isT B.nck B.long (x, f) 2) w) := by
  have HE : Hid (isT B.nck B.long (x, f) 2 = (numB x 0 0 && rowB [2] 1 (fun i => i.is 9) (IF f))) := Lib.hid (by show isX _ _ x (IF f) 2 = _; rw [isX_one hk (by rfl), hd_num, seq_arms])
  rw [HE.out]
  obtain ⟨q, p, A, c', rfl, hq, c0, c1, c2, c3, c4, hcc, hkid⟩ := InT.open hv
  rw [hk] at c0
  have cH := plain_any x f w _ hv
  have cT : ∀ w1, Up w w1 → Calls Try.prog 54 #[.pointer (some ⟨q, p, none⟩), .int .i64 1, .func (.func 55) #[] #[], .slice (some ⟨w1.heap.size, 0, none⟩) 1 1] (w1.alloc (.cells #[.func (.func 30) #[] #[]] 71)) (TelB (rowB [2] 1 (fun i => i.is 9) (IF f)) (w1.alloc (.cells #[.func (.func 30) #[] #[]] 71))) := fun w1 u => row_seq [2] 1 55 (fun i => i.is 9) x f _ _ _ _ (fun _ _ => by kernel_rfl) (by omega) (Nx.up hx (u.alloc _)) (hv.up (u.alloc _)) hn.hf (by decide) (rds_lit [2] (heap_alloc_new w1 _)) (good_kids hn (by decide)) (fun i t h => (hn.ih i t h).a9)
  obtain ⟨hb, hhb⟩ : ∃ hb, numB x 0 0 = hb := ⟨_, rfl⟩
  obtain ⟨tb, htb⟩ : ∃ tb, rowB [2] 1 (fun i => i.is 9) (IF f) = tb := ⟨_, rfl⟩
  rw [hhb, htb]
  rw [hhb] at cH
  rw [htb] at cT
  clear HE hhb htb hv hk hn hx hq c1 c2 c3 c4 hcc hkid
  cases hb
  · go_enter Try.func30, Try.ntmps30
    go_wp2_with fail
    refine cH.mono ?_
    rintro e w1 ⟨rfl, u1⟩
    go_wp2_with fail
    go_ret
    exact tel_ret rfl u1
  · go_enter Try.func30, Try.ntmps30
    go_wp2_with fail
    refine cH.mono ?_
    rintro e w1 ⟨rfl, u1⟩
    go_wp2_with fail
    refine (cT w1 u1).mono ?_
    rintro e w2 ⟨rfl, u2⟩
    go_wp2_with fail
    go_ret
    exact tel_ret (by cases tb <;> rfl) (Up.trans (u1.alloc _) u2)
set_option maxHeartbeats 3200000 in
set_option maxRecDepth 100000 in
theorem isExpr_33 (x : Nod) (f : Fr) (w : World) (v : Value) (hk : x.k = 33) (hn : Nd1 x f) (hx : B.Nx w) (hv : HasT w v (some (x, f))) : Calls Try.prog 30 #[v] w (TelB (isT B.nck B.long (x, f) 2) w) := by
  have HE : Hid (isT B.nck B.long (x, f) 2 = (numB x 0 0 && rowB [2, 1] 1 (fun i => i.is 9) (IF f))) := Lib.hid (by show isX _ _ x (IF f) 2 = _; rw [isX_one hk (by rfl), hd_num, seq_arms2])
  rw [HE.out]
  obtain ⟨q, p, A, c', rfl, hq, c0, c1, c2, c3, c4, hcc, hkid⟩ := InT.open hv
  rw [hk] at c0
  have cH := plain_any x f w _ hv
  have cT : ∀ w1, Up w w1 → Calls Try.prog 54 #[.pointer (some ⟨q, p, none⟩), .int .i64 1, .func (.func 55) #[] #[], .slice (some ⟨w1.heap.size, 0, none⟩) 2 2] (w1.alloc (.cells #[.func (.func 30) #[] #[], .func (.func 37) #[] #[]] 71)) (TelB (rowB [2, 1] 1 (fun i => i.is 9) (IF f)) (w1.alloc (.cells #[.func (.func 30) #[] #[], .func (.func 37) #[] #[]] 71))) := fun w1 u => row_seq [2, 1] 1 55 (fun i => i.is 9) x f _ _ _ _ (fun _ _ => by kernel_rfl) (by omega) (Nx.up hx (u.alloc _)) (hv.up (u.alloc _)) hn.hf (by decide) (rds_lit [2, 1] (heap_alloc_new w1 _)) (good_kids hn (by decide)) (fun i t h => (hn.ih i t h).a9)
  obtain ⟨hb, hhb⟩ : ∃ hb, numB x 0 0 = hb := ⟨_, rfl⟩
  obtain ⟨tb, htb⟩ : ∃ tb, rowB [2, 1] 1 (fun i => i.is 9) (IF f) = tb := ⟨_, rfl⟩
  rw [hhb, htb]
  rw [hhb] at cH
  rw [htb] at cT
  clear HE hhb htb hv hk hn hx hq c1 c2 c3 c4 hcc hkid
  cases hb
  · go_enter Try.func30, Try.ntmps30
    go_wp2_with fail
    refine cH.mono ?_
    rintro e w1 ⟨rfl, u1⟩
    go_wp2_with fail
    go_ret
    exact tel_ret rfl u1
  · go_enter Try.func30, Try.ntmps30
    go_wp2_with fail
    refine cH.mono ?_
    rintro e w1 ⟨rfl, u1⟩
    go_wp2_with fail
    refine (cT w1 u1).mono ?_
    rintro e w2 ⟨rfl, u2⟩
    go_wp2_with fail
    go_ret
    exact tel_ret (by cases tb <;> rfl) (Up.trans (u1.alloc _) u2)
theorem rows_isExpr : ∀ r ∈ RWS, r.cat = 2 → r.kind ∈ [(20 : Int), (21 : Int), (22 : Int), (23 : Int), (24 : Int), (25 : Int), (26 : Int), (27 : Int), (28 : Int), (29 : Int), (30 : Int), (31 : Int), (32 : Int), (33 : Int)] := by decide
set_option maxHeartbeats 3200000 in
set_option maxRecDepth 100000 in
theorem isExpr_none (x : Nod) (f : Fr) (w : World) (v : Value) (n20 : ¬ x.k = 20) (n21 : ¬ x.k = 21) (n22 : ¬ x.k = 22) (n23 : ¬ x.k = 23) (n24 : ¬ x.k = 24) (n25 : ¬ x.k = 25) (n26 : ¬ x.k = 26) (n27 : ¬ x.k = 27) (n28 : ¬ x.k = 28) (n29 : ¬ x.k = 29) (n30 : ¬ x.k = 30) (n31 : ¬ x.k = 31) (n32 : ¬ x.k = 32) (n33 : ¬ x.k = 33) (hv : HasT w v (some (x, f))) : Calls Try.prog 30 #[v] w (TelB (isT B.nck B.long (x, f) 2) w) := by
  have HE : Hid (isT B.nck B.long (x, f) 2 = false) := Lib.hid (isX_none fun r hr hc e => by have := rows_isExpr r hr hc; rw [e] at this; simp only [List.mem_cons, List.not_mem_nil, or_false] at this; omega)
  rw [HE.out]
  obtain ⟨q, p, A, c', rfl, hq, c0, c1, c2, c3, c4, hcc, hkid⟩ := InT.open hv
  clear hv HE hq c1 c2 c3 c4 hcc hkid
  go_enter Try.func30, Try.ntmps30
  go_wp2_with fail
  go_ret
  exact tel_ret rfl (Up.refl _)
theorem isExpr_any (x : Nod) (f : Fr) (hn : Nd1 x f) : TelAt 30 (isT B.nck B.long (x, f) 2) (x, f) := fun w v hx hv => by
  by_cases n20 : x.k = 20
  · exact isExpr_20 x f w v n20 hn hx hv
  by_cases n21 : x.k = 21
  · exact isExpr_21 x f w v n21 hn hx hv
  by_cases n22 : x.k = 22
  · exact isExpr_22 x f w v n22 hn hx hv
  by_cases n23 : x.k = 23
  · exact isExpr_23 x f w v n23 hn hx hv
  by_cases n24 : x.k = 24
  · exact isExpr_24 x f w v n24 hn hx hv
  by_cases n25 : x.k = 25
  · exact isExpr_25 x f w v n25 hn hx hv
  by_cases n26 : x.k = 26
  · exact isExpr_26 x f w v n26 hn hx hv
  by_cases n27 : x.k = 27
  · exact isExpr_27 x f w v n27 hn hx hv
  by_cases n28 : x.k = 28
  · exact isExpr_28 x f w v n28 hn hx hv
  by_cases n29 : x.k = 29
  · exact isExpr_29 x f w v n29 hn hx hv
  by_cases n30 : x.k = 30
  · exact isExpr_30 x f w v n30 hn hx hv
  by_cases n31 : x.k = 31
  · exact isExpr_31 x f w v n31 hn hx hv
  by_cases n32 : x.k = 32
  · exact isExpr_32 x f w v n32 hn hx hv
  by_cases n33 : x.k = 33
  · exact isExpr_33 x f w v n33 hn hx hv
  exact isExpr_none x f w v n20 n21 n22 n23 n24 n25 n26 n27 n28 n29 n30 n31 n32 n33 hv
end Go.Proofs.Ytoejegndbcbkmaa
/-
  Layer 5, the program's isMod, isSpec: what they tell of a node, Kind by Kind (written by gsh.py).
-/
namespace Go.Proofs.Ytoejegndbcbkmaa
open Go.RowKit

set_option maxHeartbeats 3200000 in
set_option maxRecDepth 100000 in
theorem isMod_40 (x : Nod) (f : Fr) (w : World) (v : Value) (hk : x.k = 40) (hn : Nd1 x f) (hx : B.Nx w) (hv : HasT w v (some (x, f))) : Calls Try.prog 38 #[v] w (TelB (isT B.nck B.long (x, f) 3) w) := by
  have HE : Hid (isT B.nck B.long (x, f) 3 = (numB x 0 0 && rowB [] 0 inM (IF f))) := Lib.hid (by show isX _ _ x (IF f) 3 = _; rw [isX_one hk (by rfl), hd_num, star_105])
  rw [HE.out]
  obtain ⟨q, p, A, c', rfl, hq, c0, c1, c2, c3, c4, hcc, hkid⟩ := InT.open hv
  rw [hk] at c0
  have cH := plain_any x f w _ hv
  have cT : ∀ w1, Up w w1 → Calls Try.prog 54 #[.pointer (some ⟨q, p, none⟩), .int .i64 0, .func (.func 60) #[] #[], .slice none 0 0] w1 (TelB (rowB [] 0 inM (IF f)) w1) := fun w1 u => row_seq [] 0 60 inM x f w1 _ none 0 (fun _ _ => by kernel_rfl) (by omega) (Nx.up hx u) (hv.up u) hn.hf (by decide) (.inl ⟨rfl, rfl⟩) (fun _ _ _ _ h => by cases h) (fun i t h => (hn.ih i t h).am)
  obtain ⟨hb, hhb⟩ : ∃ hb, numB x 0 0 = hb := ⟨_, rfl⟩
  obtain ⟨tb, htb⟩ : ∃ tb, rowB [] 0 inM (IF f) = tb := ⟨_, rfl⟩
  rw [hhb, htb]
  rw [hhb] at cH
  rw [htb] at cT
  clear HE hhb htb hv hk hn hx hq c1 c2 c3 c4 hcc hkid
  cases hb
  · go_enter Try.func38, Try.ntmps38
    go_wp2_with fail
    refine cH.mono ?_
    rintro e w1 ⟨rfl, u1⟩
    go_wp2_with fail
    go_ret
    exact tel_ret rfl u1
  · go_enter Try.func38, Try.ntmps38
    go_wp2_with fail
    refine cH.mono ?_
    rintro e w1 ⟨rfl, u1⟩
    go_wp2_with fail
    refine (cT w1 u1).mono ?_
    rintro e w2 ⟨rfl, u2⟩
    go_wp2_with fail
    go_ret
    exact tel_ret (by cases tb <;> rfl) (Up.trans (u1) u2)
set_option maxHeartbeats 3200000 in
set_option maxRecDepth 100000 in
theorem isMod_41 (x : Nod) (f : Fr) (w : World) (v : Value) (hk : x.k = 41) (hn : Nd1 x f) (hx : B.Nx w) (hv : HasT w v (some (x, f))) : Calls Try.prog 38 #[v] w (TelB (isT B.nck B.long (x, f) 3) w) := by
  have HE : Hid (isT B.nck B.long (x, f) 3 = (texB x B.long isEmp && seqK (IF f) [])) := Lib.hid (by show isX _ _ x (IF f) 3 = _; rw [isX_one hk (by rfl), hd_tex (A := B.long) (M := isEmp) (fun _ => rfl) (fun _ => rfl), seq_K _ _ (by rfl)]; rfl)
  rw [HE.out]
  obtain ⟨q, p, A, c', rfl, hq, c0, c1, c2, c3, c4, hcc, hkid⟩ := InT.open hv
  rw [hk] at c0
  have cH := longd_any x f w _ hv hn.hs.1 hx
  have cT : ∀ w1, Up w w1 → Calls Try.prog 50 #[.pointer (some ⟨q, p, none⟩), .slice none 0 0] w1 (TelB (seqK (IF f) []) w1) := fun w1 u => kids_seq [] x f w1 _ none 0 (Nx.up hx u) (hv.up u) hn.hf (by decide) (fun _ _ _ h => by cases h) (fun _ _ _ _ h => by cases h)
  obtain ⟨hb, hhb⟩ : ∃ hb, texB x B.long isEmp = hb := ⟨_, rfl⟩
  obtain ⟨tb, htb⟩ : ∃ tb, seqK (IF f) [] = tb := ⟨_, rfl⟩
  rw [hhb, htb]
  rw [hhb] at cH
  rw [htb] at cT
  clear HE hhb htb hv hk hn hx hq c1 c2 c3 c4 hcc hkid
  cases hb
  · go_enter Try.func38, Try.ntmps38
    go_wp2_with fail
    refine cH.mono ?_
    rintro e w1 ⟨rfl, u1⟩
    go_wp2_with fail
    go_ret
    exact tel_ret rfl u1
  · go_enter Try.func38, Try.ntmps38
    go_wp2_with fail
    refine cH.mono ?_
    rintro e w1 ⟨rfl, u1⟩
    go_wp2_with fail
    refine (cT w1 u1).mono ?_
    rintro e w2 ⟨rfl, u2⟩
    go_wp2_with fail
    go_ret
    exact tel_ret (by cases tb <;> rfl) (Up.trans (u1) u2)
set_option maxHeartbeats 3200000 in
set_option maxRecDepth 100000 in
theorem isMod_42 (x : Nod) (f : Fr) (w : World) (v : Value) (hk : x.k = 42) (hn : Nd1 x f) (hx : B.Nx w) (hv : HasT w v (some (x, f))) : Calls Try.prog 38 #[v] w (TelB (isT B.nck B.long (x, f) 3) w) := by
  have HE : Hid (isT B.nck B.long (x, f) 3 = (texB x B.nck isEmp && seqK (IF f) [3])) := Lib.hid (by show isX _ _ x (IF f) 3 = _; rw [isX_one hk (by rfl), hd_tex (A := B.nck) (M := isEmp) (fun _ => rfl) (fun _ => rfl), seq_K _ _ (by rfl)]; rfl)
  rw [HE.out]
  obtain ⟨q, p, A, c', rfl, hq, c0, c1, c2, c3, c4, hcc, hkid⟩ := InT.open hv
  rw [hk] at c0
  have cH := named_any x f w _ hv hn.hs.1
  have cT : ∀ w1, Up w w1 → Calls Try.prog 50 #[.pointer (some ⟨q, p, none⟩), .slice (some ⟨w1.heap.size, 0, none⟩) 1 1] (w1.alloc (.cells #[.func (.func 38) #[] #[]] 71)) (TelB (seqK (IF f) [3]) (w1.alloc (.cells #[.func (.func 38) #[] #[]] 71))) := fun w1 u => kids_seq [3] x f _ _ _ _ (Nx.up hx (u.alloc _)) (hv.up (u.alloc _)) hn.hf (by decide) (fns_lit (fnsC [3]) (heap_alloc_new w1 _)) (good_kids hn (by decide))
  obtain ⟨hb, hhb⟩ : ∃ hb, texB x B.nck isEmp = hb := ⟨_, rfl⟩
  obtain ⟨tb, htb⟩ : ∃ tb, seqK (IF f) [3] = tb := ⟨_, rfl⟩
  rw [hhb, htb]
  rw [hhb] at cH
  rw [htb] at cT
  clear HE hhb htb hv hk hn hx hq c1 c2 c3 c4 hcc hkid
  cases hb
  · go_enter Try.func38, Try.ntmps38
    go_wp2_with fail
    refine cH.mono ?_
    rintro e w1 ⟨rfl, u1⟩
    go_wp2_with fail
    go_ret
    exact tel_ret rfl u1
  · go_enter Try.func38, Try.ntmps38
    go_wp2_with fail
    refine cH.mono ?_
    rintro e w1 ⟨rfl, u1⟩
    go_wp2_with fail
    refine (cT w1 u1).mono ?_
    rintro e w2 ⟨rfl, u2⟩
    go_wp2_with fail
    go_ret
    exact tel_ret (by cases tb <;> rfl) (Up.trans (u1.alloc _) u2)
set_option maxHeartbeats 3200000 in
set_option maxRecDepth 100000 in
theorem isMod_43 (x : Nod) (f : Fr) (w : World) (v : Value) (hk : x.k = 43) (hn : Nd1 x f) (hx : B.Nx w) (hv : HasT w v (some (x, f))) : Calls Try.prog 38 #[v] w (TelB (isT B.nck B.long (x, f) 3) w) := by
  have HE : Hid (isT B.nck B.long (x, f) 3 = (numB x 0 1 && seqK (IF f) [3, 4])) := Lib.hid (by show isX _ _ x (IF f) 3 = _; rw [isX_one hk (by rfl), hd_num, seq_K _ _ (by rfl)]; rfl)
  rw [HE.out]
  obtain ⟨q, p, A, c', rfl, hq, c0, c1, c2, c3, c4, hcc, hkid⟩ := InT.open hv
  rw [hk] at c0
  have cH := number_any x f 0 1 w _ hv
  have cT : ∀ w1, Up w w1 → Calls Try.prog 50 #[.pointer (some ⟨q, p, none⟩), .slice (some ⟨w1.heap.size, 0, none⟩) 2 2] (w1.alloc (.cells #[.func (.func 38) #[] #[], .func (.func 39) #[] #[]] 71)) (TelB (seqK (IF f) [3, 4]) (w1.alloc (.cells #[.func (.func 38) #[] #[], .func (.func 39) #[] #[]] 71))) := fun w1 u => kids_seq [3, 4] x f _ _ _ _ (Nx.up hx (u.alloc _)) (hv.up (u.alloc _)) hn.hf (by decide) (fns_lit (fnsC [3, 4]) (heap_alloc_new w1 _)) (good_kids hn (by decide))
  obtain ⟨hb, hhb⟩ : ∃ hb, numB x 0 1 = hb := ⟨_, rfl⟩
  obtain ⟨tb, htb⟩ : ∃ tb, seqK (IF f) [3, 4] = tb := ⟨_, rfl⟩
  rw [hhb, htb]
  rw [hhb] at cH
  rw [htb] at cT
  clear HE hhb htb hv hk hn hx hq c1 c2 c3 c4 hcc hkid
  cases hb
  · go_enter Try.func38, Try.ntmps38
    go_wp2_with fail
    refine cH.mono ?_
    rintro e w1 ⟨rfl, u1⟩
    go_wp2_with fail
    go_ret
    exact tel_ret rfl u1
  · go_enter Try.func38, Try.ntmps38
    go_wp2_with fail
    refine cH.mono ?_
    rintro e w1 ⟨rfl, u1⟩
    go_wp2_with fail
    refine (cT w1 u1).mono ?_
    rintro e w2 ⟨rfl, u2⟩
    go_wp2_with fail
    go_ret
    exact tel_ret (by cases tb <;> rfl) (Up.trans (u1.alloc _) u2)
theorem rows_isMod : ∀ r ∈ RWS, r.cat = 3 → r.kind ∈ [(40 : Int), (41 : Int), (42 : Int), (43 : Int)] := by decide
set_option maxHeartbeats 3200000 in
set_option maxRecDepth 100000 in
theorem isMod_none (x : Nod) (f : Fr) (w : World) (v : Value) (n40 : ¬ x.k = 40) (n41 : ¬ x.k = 41) (n42 : ¬ x.k = 42) (n43 : ¬ x.k = 43) (hv : HasT w v (some (x, f))) : Calls Try.prog 38 #[v] w (TelB (isT B.nck B.long (x, f) 3) w) := by
  have HE : Hid (isT B.nck B.long (x, f) 3 = false) := Lib.hid (isX_none fun r hr hc e => by have := rows_isMod r hr hc; rw [e] at this; simp only [List.mem_cons, List.not_mem_nil, or_false] at this; omega)
  rw [HE.out]
  obtain ⟨q, p, A, c', rfl, hq, c0, c1, c2, c3, c4, hcc, hkid⟩ := InT.open hv
  clear hv HE hq c1 c2 c3 c4 hcc hkid
  go_enter Try.func38, Try.ntmps38
  go_wp2_with fail
  go_ret
  exact tel_ret rfl (Up.refl _)
theorem isMod_any (x : Nod) (f : Fr) (hn : Nd1 x f) : TelAt 38 (isT B.nck B.long (x, f) 3) (x, f) := fun w v hx hv => by
  by_cases n40 : x.k = 40
  · exact isMod_40 x f w v n40 hn hx hv
  by_cases n41 : x.k = 41
  · exact isMod_41 x f w v n41 hn hx hv
  by_cases n42 : x.k = 42
  · exact isMod_42 x f w v n42 hn hx hv
  by_cases n43 : x.k = 43
  · exact isMod_43 x f w v n43 hn hx hv
  exact isMod_none x f w v n40 n41 n42 n43 hv
set_option maxHeartbeats 3200000 in
set_option maxRecDepth 100000 in
theorem isSpec_60 (x : Nod) (f : Fr) (w : World) (v : Value) (hk : x.k = 60) (hn : Nd1 x f) (hx : B.Nx w) (hv : HasT w v (some (x, f))) : Calls Try.prog 40 #[v] w (TelB (isT B.nck B.long (x, f) 5) w) := by
  have HE : Hid (isT B.nck B.long (x, f) 5 = (texB x B.nck isEmp && seqK (IF f) [1])) := Lib.hid (by show isX _ _ x (IF f) 5 = _; rw [isX_one hk (by rfl), hd_tex (A := B.nck) (M := isEmp) (fun _ => rfl) (fun _ => rfl), seq_K _ _ (by rfl)]; rfl)
  rw [HE.out]
  obtain ⟨q, p, A, c', rfl, hq, c0, c1, c2, c3, c4, hcc, hkid⟩ := InT.open hv
  rw [hk] at c0
  have cH := named_any x f w _ hv hn.hs.1
  have cT : ∀ w1, Up w w1 → Calls Try.prog 50 #[.pointer (some ⟨q, p, none⟩), .slice (some ⟨w1.heap.size, 0, none⟩) 1 1] (w1.alloc (.cells #[.func (.func 37) #[] #[]] 71)) (TelB (seqK (IF f) [1]) (w1.alloc (.cells #[.func (.func 37) #[] #[]] 71))) := fun w1 u => kids_seq [1] x f _ _ _ _ (Nx.up hx (u.alloc _)) (hv.up (u.alloc _)) hn.hf (by decide) (fns_lit (fnsC [1]) (heap_alloc_new w1 _)) (good_kids hn (by decide))
  obtain ⟨hb, hhb⟩ : ∃ hb, texB x B.nck isEmp = hb := ⟨_, rfl⟩
  obtain ⟨tb, htb⟩ : ∃ tb, seqK (IF f) [1] = tb := ⟨_, rfl⟩
  rw [hhb, htb]
  rw [hhb] at cH
  rw [htb] at cT
  clear HE hhb htb hv hk hn hx hq c1 c2 c3 c4 hcc hkid
  cases hb
  · go_enter Try.func40, Try.ntmps40
    go_wp2_with fail
    refine cH.mono ?_
    rintro e w1 ⟨rfl, u1⟩
    go_wp2_with fail
    go_ret
    exact tel_ret rfl u1
  · go_enter Try.func40, Try.ntmps40
    go_wp2_with fail
    refine cH.mono ?_
    rintro e w1 ⟨rfl, u1⟩
    go_wp2_with fail
    refine (cT w1 u1).mono ?_
    rintro e w2 ⟨rfl, u2⟩
    go_wp2_with fail
    go_ret
    exact tel_ret (by cases tb <;> rfl) (Up.trans (u1.alloc _) u2)
set_option maxHeartbeats 3200000 in
set_option maxRecDepth 100000 in
theorem isSpec_61 (x : Nod) (f : Fr) (w : World) (v : Value) (hk : x.k = 61) (hn : Nd1 x f) (hx : B.Nx w) (hv : HasT w v (some (x, f))) : Calls Try.prog 40 #[v] w (TelB (isT B.nck B.long (x, f) 5) w) := by
  have HE : Hid (isT B.nck B.long (x, f) 5 = (texB x B.nck isEmp && (seqK (IF f) [] || seqK (IF f) [1]))) := Lib.hid (by show isX _ _ x (IF f) 5 = _; rw [isX_two hk (by rfl), hd_tex (A := B.nck) (M := isEmp) (fun _ => rfl) (fun _ => rfl), seq_K _ _ (by rfl), seq_K _ _ (by rfl), Bool.or_comm]; rfl)
  rw [HE.out]
  obtain ⟨q, p, A, c', rfl, hq, c0, c1, c2, c3, c4, hcc, hkid⟩ := InT.open hv
  rw [hk] at c0
  have cH := named_any x f w _ hv hn.hs.1
  have cT : ∀ w1, Up w w1 → Calls Try.prog 50 #[.pointer (some ⟨q, p, none⟩), .slice none 0 0] w1 (TelB (seqK (IF f) []) w1) := fun w1 u => kids_seq [] x f w1 _ none 0 (Nx.up hx u) (hv.up u) hn.hf (by decide) (fun _ _ _ h => by cases h) (fun _ _ _ _ h => by cases h)
  have cU : ∀ w1, Up w w1 → Calls Try.prog 50 #[.pointer (some ⟨q, p, none⟩), .slice (some ⟨w1.heap.size, 0, none⟩) 1 1] (w1.alloc (.cells #[.func (.func 37) #[] #[]] 71)) (TelB (seqK (IF f) [1]) (w1.alloc (.cells #[.func (.func 37) #[] #[]] 71))) := fun w1 u => kids_seq [1] x f _ _ _ _ (Nx.up hx (u.alloc _)) (hv.up (u.alloc _)) hn.hf (by decide) (fns_lit (fnsC [1]) (heap_alloc_new w1 _)) (good_kids hn (by decide))
  obtain ⟨hb, hhb⟩ : ∃ hb, texB x B.nck isEmp = hb := ⟨_, rfl⟩
  obtain ⟨tb, htb⟩ : ∃ tb, seqK (IF f) [] = tb := ⟨_, rfl⟩
  obtain ⟨ub, hub⟩ : ∃ ub, seqK (IF f) [1] = ub := ⟨_, rfl⟩
  rw [hhb, htb, hub]
  rw [hhb] at cH
  rw [htb] at cT
  rw [hub] at cU
  clear HE hhb htb hub hv hk hn hx hq c1 c2 c3 c4 hcc hkid
  cases hb
  · go_enter Try.func40, Try.ntmps40
    go_wp2_with fail
    refine cH.mono ?_
    rintro e w1 ⟨rfl, u1⟩
    go_wp2_with fail
    go_ret
    exact tel_ret rfl u1
  · cases tb
    · go_enter Try.func40, Try.ntmps40
      go_wp2_with fail
      refine cH.mono ?_
      rintro e w1 ⟨rfl, u1⟩
      go_wp2_with fail
      refine (cT w1 u1).mono ?_
      rintro e w2 ⟨rfl, u2⟩
      have u3 : Up w w2 := Up.trans (u1) u2
      go_wp2_with fail
      refine (cU w2 u3).mono ?_
      rintro e w3 ⟨rfl, u4⟩
      go_wp2_with fail
      go_ret
      exact tel_ret (by cases ub <;> rfl) (Up.trans (u3.alloc _) u4)
    · go_enter Try.func40, Try.ntmps40
      go_wp2_with fail
      refine cH.mono ?_
      rintro e w1 ⟨rfl, u1⟩
      go_wp2_with fail
      refine (cT w1 u1).mono ?_
      rintro e w2 ⟨rfl, u2⟩
      have u3 : Up w w2 := Up.trans (u1) u2
      go_wp2_with fail
      go_ret
      exact tel_ret rfl u3
set_option maxHeartbeats 3200000 in
set_option maxRecDepth 100000 in
theorem isSpec_62 (x : Nod) (f : Fr) (w : World) (v : Value) (hk : x.k = 62) (hn : Nd1 x f) (hx : B.Nx w) (hv : HasT w v (some (x, f))) : Calls Try.prog 40 #[v] w (TelB (isT B.nck B.long (x, f) 5) w) := by
  have HE : Hid (isT B.nck B.long (x, f) 5 = (texB x B.nck isEmp && seqOk (IF f) [67])) := Lib.hid (by show isX _ _ x (IF f) 5 = _; rw [isX_one hk (by rfl), hd_tex (A := B.nck) (M := isEmp) (fun _ => rfl) (fun _ => rfl)])
  rw [HE.out]
  obtain ⟨q, p, A, c', rfl, hq, c0, c1, c2, c3, c4, hcc, hkid⟩ := InT.open hv
  rw [hk] at c0
  have cH := named_any x f w _ hv hn.hs.1
  have cT : ∀ w1, Up w w1 → Calls Try.prog 59 #[.pointer (some ⟨q, p, none⟩)] w1 (TelB (seqOk (IF f) [67]) w1) := fun w1 u => pcons_any x f w1 _ (Nx.up hx u) (hv.up u) hn.hs hn.hf fun i t h => ⟨(hn.ih i t h).ln, (hn.ih i t h).kk⟩
  obtain ⟨hb, hhb⟩ : ∃ hb, texB x B.nck isEmp = hb := ⟨_, rfl⟩
  obtain ⟨tb, htb⟩ : ∃ tb, seqOk (IF f) [67] = tb := ⟨_, rfl⟩
  rw [hhb, htb]
  rw [hhb] at cH
  rw [htb] at cT
  clear HE hhb htb hv hk hn hx hq c1 c2 c3 c4 hcc hkid
  cases hb
  · go_enter Try.func40, Try.ntmps40
    go_wp2_with fail
    refine cH.mono ?_
    rintro e w1 ⟨rfl, u1⟩
    go_wp2_with fail
    go_ret
    exact tel_ret rfl u1
  · go_enter Try.func40, Try.ntmps40
    go_wp2_with fail
    refine cH.mono ?_
    rintro e w1 ⟨rfl, u1⟩
    go_wp2_with fail
    refine (cT w1 u1).mono ?_
    rintro e w2 ⟨rfl, u2⟩
    go_wp2_with fail
    go_ret
    exact tel_ret (by cases tb <;> rfl) (Up.trans (u1) u2)
set_option maxHeartbeats 3200000 in
set_option maxRecDepth 100000 in
theorem isSpec_63 (x : Nod) (f : Fr) (w : World) (v : Value) (hk : x.k = 63) (hn : Nd1 x f) (hx : B.Nx w) (hv : HasT w v (some (x, f))) : Calls Try.prog 40 #[v] w (TelB (isT B.nck B.long (x, f) 5) w) := by
  have HE : Hid (isT B.nck B.long (x, f) 5 = (texB x B.nck isEmp && seqK (IF f) [4])) := Lib.hid (by show isX _ _ x (IF f) 5 = _; rw [isX_one hk (by rfl), hd_tex (A := B.nck) (M := isEmp) (fun _ => rfl) (fun _ => rfl), seq_K _ _ (by rfl)]; rfl)
  rw [HE.out]
  obtain ⟨q, p, A, c', rfl, hq, c0, c1, c2, c3, c4, hcc, hkid⟩ := InT.open hv
  rw [hk] at c0
  have cH := named_any x f w _ hv hn.hs.1
  have cT : ∀ w1, Up w w1 → Calls Try.prog 50 #[.pointer (some ⟨q, p, none⟩), .slice (some ⟨w1.heap.size, 0, none⟩) 1 1] (w1.alloc (.cells #[.func (.func 39) #[] #[]] 71)) (TelB (seqK (IF f) [4]) (w1.alloc (.cells #[.func (.func 39) #[] #[]] 71))) := fun w1 u => kids_seq [4] x f _ _ _ _ (Nx.up hx (u.alloc _)) (hv.up (u.alloc _)) hn.hf (by decide) (fns_lit (fnsC [4]) (heap_alloc_new w1 _)) (good_kids hn (by decide))
  obtain ⟨hb, hhb⟩ : ∃ hb, texB x B.nck isEmp = hb := ⟨_, rfl⟩
  obtain ⟨tb, htb⟩ : ∃ tb, seqK (IF f) [4] = tb := ⟨_, rfl⟩
  rw [hhb, htb]
  rw [hhb] at cH
  rw [htb] at cT
  clear HE hhb htb hv hk hn hx hq c1 c2 c3 c4 hcc hkid
  cases hb
  · go_enter Try.func40, Try.ntmps40
    go_wp2_with fail
    refine cH.mono ?_
    rintro e w1 ⟨rfl, u1⟩
    go_wp2_with fail
    go_ret
    exact tel_ret rfl u1
  · go_enter Try.func40, Try.ntmps40
    go_wp2_with fail
    refine cH.mono ?_
    rintro e w1 ⟨rfl, u1⟩
    go_wp2_with fail
    refine (cT w1 u1).mono ?_
    rintro e w2 ⟨rfl, u2⟩
    go_wp2_with fail
    go_ret
    exact tel_ret (by cases tb <;> rfl) (Up.trans (u1.alloc _) u2)
set_option maxHeartbeats 3200000 in
set_option maxRecDepth 100000 in
theorem isSpec_64 (x : Nod) (f : Fr) (w : World) (v : Value) (hk : x.k = 64) (hn : Nd1 x f) (hx : B.Nx w) (hv : HasT w v (some (x, f))) : Calls Try.prog 40 #[v] w (TelB (isT B.nck B.long (x, f) 5) w) := by
  have HE : Hid (isT B.nck B.long (x, f) 5 = (numB x 0 0 && seqK (IF f) [4])) := Lib.hid (by show isX _ _ x (IF f) 5 = _; rw [isX_one hk (by rfl), hd_num, seq_K _ _ (by rfl)]; rfl)
  rw [HE.out]
  obtain ⟨q, p, A, c', rfl, hq, c0, c1, c2, c3, c4, hcc, hkid⟩ := InT.open hv
  rw [hk] at c0
  have cH := plain_any x f w _ hv
  have cT : ∀ w1, Up w w1 → Calls Try.prog 50 #[.pointer (some ⟨q, p, none⟩), .slice (some ⟨w1.heap.size, 0, none⟩) 1 1] (w1.alloc (.cells #[.func (.func 39) #[] #[]] 71)) (TelB (seqK (IF f) [4]) (w1.alloc (.cells #[.func (.func 39) #[] #[]] 71))) := fun w1 u => kids_seq [4] x f _ _ _ _ (Nx.up hx (u.alloc _)) (hv.up (u.alloc _)) hn.hf (by decide) (fns_lit (fnsC [4]) (heap_alloc_new w1 _)) (good_kids hn (by decide))
  obtain ⟨hb, hhb⟩ : ∃ hb, numB x 0 0 = hb := ⟨_, rfl⟩
  obtain ⟨tb, htb⟩ : ∃ tb, seqK (IF f) [4] = tb := ⟨_, rfl⟩
  rw [hhb, htb]
  rw [hhb] at cH
  rw [htb] at cT
  clear HE hhb htb hv hk hn hx hq c1 c2 c3 c4 hcc hkid
  cases hb
  · go_enter Try.func40, Try.ntmps40
    go_wp2_with fail
    refine cH.mono ?_
    rintro e w1 ⟨rfl, u1⟩
    go_wp2_with fail
    go_ret
    exact tel_ret rfl u1
  · go_enter Try.func40, Try.ntmps40
    go_wp2_with fail
    refine cH.mono ?_
    rintro e w1 ⟨rfl, u1⟩
    go_wp2_with fail
    refine (cT w1 u1).mono ?_
    rintro e w2 ⟨rfl, u2⟩
    go_wp2_with fail
    go_ret
    exact tel_ret (by cases tb <;> rfl) (Up.trans (u1.alloc _) u2)
set_option maxHeartbeats 3200000 in
set_option maxRecDepth 100000 in
theorem isSpec_65 (x : Nod) (f : Fr) (w : World) (v : Value) (hk : x.k = 65) (hn : Nd1 x f) (hx : B.Nx w) (hv : HasT w v (some (x, f))) : Calls Try.prog 40 #[v] w (TelB (isT B.nck B.long (x, f) 5) w) := by
  have HE : Hid (isT B.nck B.long (x, f) 5 = (texB x B.long B.long && seqK (IF f) [])) := Lib.hid (by show isX _ _ x (IF f) 5 = _; rw [isX_one hk (by rfl), hd_tex (A := B.long) (M := B.long) (fun _ => rfl) (fun _ => rfl), seq_K _ _ (by rfl)]; rfl)
  rw [HE.out]
  obtain ⟨q, p, A, c', rfl, hq, c0, c1, c2, c3, c4, hcc, hkid⟩ := InT.open hv
  rw [hk] at c0
  have cH := longs2_any x f w _ hv hn.hs.1 hn.hs.2.1 hx
  have cT : ∀ w1, Up w w1 → Calls Try.prog 50 #[.pointer (some ⟨q, p, none⟩), .slice none 0 0] w1 (TelB (seqK (IF f) []) w1) := fun w1 u => kids_seq [] x f w1 _ none 0 (Nx.up hx u) (hv.up u) hn.hf (by decide) (fun _ _ _ h => by cases h) (fun _ _ _ _ h => by cases h)
  obtain ⟨hb, hhb⟩ : ∃ hb, texB x B.long B.long = hb := ⟨_, rfl⟩
  obtain ⟨tb, htb⟩ : ∃ tb, seqK (IF f) [] = tb := ⟨_, rfl⟩
  rw [hhb, htb]
  rw [hhb] at cH
  rw [htb] at cT
  clear HE hhb htb hv hk hn hx hq c1 c2 c3 c4 hcc hkid
  cases hb
  · go_enter Try.func40, Try.ntmps40
    go_wp2_with fail
    refine cH.mono ?_
    rintro e w1 ⟨rfl, u1⟩
    go_wp2_with fail
    go_ret
    exact tel_ret rfl u1
  · go_enter Try.func40, Try.ntmps40
    go_wp2_with fail
    refine cH.mono ?_
    rintro e w1 ⟨rfl, u1⟩
    go_wp2_with fail
    refine (cT w1 u1).mono ?_
    rintro e w2 ⟨rfl, u2⟩
    go_wp2_with fail
    go_ret
    exact tel_ret (by cases tb <;> rfl) (Up.trans (u1) u2)
theorem rows_isSpec : ∀ r ∈ RWS, r.cat = 5 → r.kind ∈ [(60 : Int), (61 : Int), (62 : Int), (63 : Int), (64 : Int), (65 : Int)] := by decide
set_option maxHeartbeats 3200000 in
set_option maxRecDepth 100000 in
theorem isSpec_none (x : Nod) (f : Fr) (w : World) (v : Value) (n60 : ¬ x.k = 60) (n61 : ¬ x.k = 61) (n62 : ¬ x.k = 62) (n63 : ¬ x.k = 63) (n64 : ¬ x.k = 64) (n65 : ¬ x.k = 65) (hv : HasT w v (some (x, f))) : Calls Try.prog 40 #[v] w (TelB (isT B.nck B.long (x, f) 5) w) := by
  have HE : Hid (isT B.nck B.long (x, f) 5 = false) := Lib.hid (isX_none fun r hr hc e => by have := rows_isSpec r hr hc; rw [e] at this; simp only [List.mem_cons, List.not_mem_nil, or_false] at this; omega)
  rw [HE.out]
  obtain ⟨q, p, A, c', rfl, hq, c0, c1, c2, c3, c4, hcc, hkid⟩ := InT.open hv
  clear hv HE hq c1 c2 c3 c4 hcc hkid
  go_enter Try.func40, Try.ntmps40
  go_wp2_with fail
  go_ret
  exact tel_ret rfl (Up.refl _)
theorem isSpec_any (x : Nod) (f : Fr) (hn : Nd1 x f) : TelAt 40 (isT B.nck B.long (x, f) 5) (x, f) := fun w v hx hv => by
  by_cases n60 : x.k = 60
  · exact isSpec_60 x f w v n60 hn hx hv
  by_cases n61 : x.k = 61
  · exact isSpec_61 x f w v n61 hn hx hv
  by_cases n62 : x.k = 62
  · exact isSpec_62 x f w v n62 hn hx hv
  by_cases n63 : x.k = 63
  · exact isSpec_63 x f w v n63 hn hx hv
  by_cases n64 : x.k = 64
  · exact isSpec_64 x f w v n64 hn hx hv
  by_cases n65 : x.k = 65
  · exact isSpec_65 x f w v n65 hn hx hv
  exact isSpec_none x f w v n60 n61 n62 n63 n64 n65 hv
end Go.Proofs.Ytoejegndbcbkmaa
/-
  Layer 5, the program's isDecl: what they tell of a node, Kind by Kind (written by gsh.py).
-/
namespace Go.Proofs.Ytoejegndbcbkmaa
open Go.RowKit

set_option maxHeartbeats 3200000 in
set_option maxRecDepth 100000 in
theorem isDecl_70 (x : Nod) (f : Fr) (w : World) (v : Value) (hk : x.k = 70) (hn : Nd1 x f) (hx : B.Nx w) (hv : HasT w v (some (x, f))) : Calls Try.prog 41 #[v] w (TelB (isT B.nck B.long (x, f) 6) w) := by
  have HE : Hid (isT B.nck B.long (x, f) 6 = (texB x B.nck isEmp && (seqK (IF f) [2] || seqK (IF f) [1, 2]))) := Lib.hid (by show isX _ _ x (IF f) 6 = _; rw [isX_two hk (by rfl), hd_tex (A := B.nck) (M := isEmp) (fun _ => rfl) (fun _ => rfl), seq_K _ _ (by rfl), seq_K _ _ (by rfl)]; rfl)
  rw [HE.out]
  obtain ⟨q, p, A, c', rfl, hq, c0, c1, c2, c3, c4, hcc, hkid⟩ := InT.open hv
  rw [hk] at c0
  have cH := named_any x f w _ hv hn.hs.1
  have cT : ∀ w1, Up w w1 → Calls Try.prog 50 #[.pointer (some ⟨q, p, none⟩), .slice (some ⟨w1.heap.size, 0, none⟩) 1 1] (w1.alloc (.cells #[.func (.func 30) #[] #[]] 71)) (TelB (seqK (IF f) [2]) (w1.alloc (.cells #[.func (.func 30) #[] #[]] 71))) := fun w1 u => kids_seq [2] x f _ _ _ _ (Nx.up hx (u.alloc _)) (hv.up (u.alloc _)) hn.hf (by decide) (fns_lit (fnsC [2]) (heap_alloc_new w1 _)) (good_kids hn (by decide))
  have cU : ∀ w1, Up w w1 → Calls Try.prog 50 #[.pointer (some ⟨q, p, none⟩), .slice (some ⟨w1.heap.size, 0, none⟩) 2 2] (w1.alloc (.cells #[.func (.func 37) #[] #[], .func (.func 30) #[] #[]] 71)) (TelB (seqK (IF f) [1, 2]) (w1.alloc (.cells #[.func (.func 37) #[] #[], .func (.func 30) #[] #[]] 71))) := fun w1 u => kids_seq [1, 2] x f _ _ _ _ (Nx.up hx (u.alloc _)) (hv.up (u.alloc _)) hn.hf (by decide) (fns_lit (fnsC [1, 2]) (heap_alloc_new w1 _)) (good_kids hn (by decide))
  obtain ⟨hb, hhb⟩ : ∃ hb, texB x B.nck isEmp = hb := ⟨_, rfl⟩
  obtain ⟨tb, htb⟩ : ∃ tb, seqK (IF f) [2] = tb := ⟨_, rfl⟩
  obtain ⟨ub, hub⟩ : ∃ ub, seqK (IF f) [1, 2] = ub := ⟨_, rfl⟩
  rw [hhb, htb, hub]
  rw [hhb] at cH
  rw [htb] at cT
  rw [hub] at cU
  clear HE hhb htb hub hv hk hn hx hq c1 c2 c3 c4 hcc hkid
  cases hb
  · go_enter Try.func41, Try.ntmps41
    go_wp2_with fail
    refine cH.mono ?_
    rintro e w1 ⟨rfl, u1⟩
    go_wp2_with fail
    go_ret
    exact tel_ret rfl u1
  · cases tb
    · go_enter Try.func41, Try.ntmps41
      go_wp2_with fail
      refine cH.mono ?_
      rintro e w1 ⟨rfl, u1⟩
      go_wp2_with fail
      refine (cT w1 u1).mono ?_
      rintro e w2 ⟨rfl, u2⟩
      have u3 : Up w w2 := Up.trans (u1.alloc _) u2
      go_wp2_with fail
      refine (cU w2 u3).mono ?_
      rintro e w3 ⟨rfl, u4⟩
      go_wp2_with fail
      go_ret
      exact tel_ret (by cases ub <;> rfl) (Up.trans (u3.alloc _) u4)
    · go_enter Try.func41, Try.ntmps41
      go_wp2_with fail
      refine cH.mono ?_
      rintro e w1 ⟨rfl, u1⟩
      go_wp2_with fail
      refine (cT w1 u1).mono ?_
      rintro e w2 ⟨rfl, u2⟩
      have u3 : Up w w2 := Up.trans (u1.alloc _) u2
      go_wp2_with fail
      go_ret
      exact tel_ret rfl u3
set_option maxHeartbeats 3200000 in
set_option maxRecDepth 100000 in
theorem isDecl_71 (x : Nod) (f : Fr) (w : World) (v : Value) (hk : x.k = 71) (hn : Nd1 x f) (hx : B.Nx w) (hv : HasT w v (some (x, f))) : Calls Try.prog 41 #[v] w (TelB (isT B.nck B.long (x, f) 6) w) := by
  have HE : Hid (isT B.nck B.long (x, f) 6 = (texB x B.nck isEmp && seqK (IF f) [1])) := Lib.hid (by show isX _ _ x (IF f) 6 = _; rw [isX_one hk (by rfl), hd_tex (A := B.nck) (M := isEmp) (fun _ => rfl) (fun _ => rfl), seq_K _ _ (by rfl)]; rfl)
  rw [HE.out]
  obtain ⟨q, p, A, c', rfl, hq, c0, c1, c2, c3, c4, hcc, hkid⟩ := InT.open hv
  rw [hk] at c0
  have cH := named_any x f w _ hv hn.hs.1
  have cT : ∀ w1, Up w w1 → Calls Try.prog 50 #[.pointer (some ⟨q, p, none⟩), .slice (some ⟨w1.heap.size, 0, none⟩) 1 1] (w1.alloc (.cells #[.func (.func 37) #[] #[]] 71)) (TelB (seqK (IF f) [1]) (w1.alloc (.cells #[.func (.func 37) #[] #[]] 71))) := fun w1 u => kids_seq [1] x f _ _ _ _ (Nx.up hx (u.alloc _)) (hv.up (u.alloc _)) hn.hf (by decide) (fns_lit (fnsC [1]) (heap_alloc_new w1 _)) (good_kids hn (by decide))
  obtain ⟨hb, hhb⟩ : ∃ hb, texB x B.nck isEmp = hb := ⟨_, rfl⟩
  obtain ⟨tb, htb⟩ : ∃ tb, seqK (IF f) [1] = tb := ⟨_, rfl⟩
  rw [hhb, htb]
  rw [hhb] at cH
  rw [htb] at cT
  clear HE hhb htb hv hk hn hx hq c1 c2 c3 c4 hcc hkid
  cases hb
  · go_enter Try.func41, Try.ntmps41
    go_wp2_with fail
    refine cH.mono ?_
    rintro e w1 ⟨rfl, u1⟩
    go_wp2_with fail
    go_ret
    exact tel_ret rfl u1
  · go_enter Try.func41, Try.ntmps41
    go_wp2_with fail
    refine cH.mono ?_
    rintro e w1 ⟨rfl, u1⟩
    go_wp2_with fail
    refine (cT w1 u1).mono ?_
    rintro e w2 ⟨rfl, u2⟩
    go_wp2_with fail
    go_ret
    exact tel_ret (by cases tb <;> rfl) (Up.trans (u1.alloc _) u2)
set_option maxHeartbeats 3200000 in
set_option maxRecDepth 100000 in
theorem isDecl_72 (x : Nod) (f : Fr) (w : World) (v : Value) (hk : x.k = 72) (hn : Nd1 x f) (hx : B.Nx w) (hv : HasT w v (some (x, f))) : Calls Try.prog 41 #[v] w (TelB (isT B.nck B.long (x, f) 6) w) := by
  have HE : Hid (isT B.nck B.long (x, f) 6 = (texB x B.nck isEmp && seqOk (IF f) [67])) := Lib.hid (by show isX _ _ x (IF f) 6 = _; rw [isX_one hk (by rfl), hd_tex (A := B.nck) (M := isEmp) (fun _ => rfl) (fun _ => rfl)])
  rw [HE.out]
  obtain ⟨q, p, A, c', rfl, hq, c0, c1, c2, c3, c4, hcc, hkid⟩ := InT.open hv
  rw [hk] at c0
  have cH := named_any x f w _ hv hn.hs.1
  have cT : ∀ w1, Up w w1 → Calls Try.prog 59 #[.pointer (some ⟨q, p, none⟩)] w1 (TelB (seqOk (IF f) [67]) w1) := fun w1 u => pcons_any x f w1 _ (Nx.up hx u) (hv.up u) hn.hs hn.hf fun i t h => ⟨(hn.ih i t h).ln, (hn.ih i t h).kk⟩
  obtain ⟨hb, hhb⟩ : ∃ hb, texB x B.nck isEmp = hb := ⟨_, rfl⟩
  obtain ⟨tb, htb⟩ : ∃ tb, seqOk (IF f) [67] = tb := ⟨_, rfl⟩
  rw [hhb, htb]
  rw [hhb] at cH
  rw [htb] at cT
  clear HE hhb htb hv hk hn hx hq c1 c2 c3 c4 hcc hkid
  cases hb
  · go_enter Try.func41, Try.ntmps41
    go_wp2_with fail
    refine cH.mono ?_
    rintro e w1 ⟨rfl, u1⟩
    go_wp2_with fail
    go_ret
    exact tel_ret rfl u1
  · go_enter Try.func41, Try.ntmps41
    go_wp2_with fail
    refine cH.mono ?_
    rintro e w1 ⟨rfl, u1⟩
    go_wp2_with fail
    refine (cT w1 u1).mono ?_
    rintro e w2 ⟨rfl, u2⟩
    go_wp2_with fail
    go_ret
    exact tel_ret (by cases tb <;> rfl) (Up.trans (u1) u2)
set_option maxHeartbeats 3200000 in
set_option maxRecDepth 100000 in
theorem isDecl_73 (x : Nod) (f : Fr) (w : World) (v : Value) (hk : x.k = 73) (hn : Nd1 x f) (hx : B.Nx w) (hv : HasT w v (some (x, f))) : Calls Try.prog 41 #[v] w (TelB (isT B.nck B.long (x, f) 6) w) := by
  have HE : Hid (isT B.nck B.long (x, f) 6 = (texB x B.nck isEmp && seqK (IF f) [3])) := Lib.hid (by show isX _ _ x (IF f) 6 = _; rw [isX_one hk (by rfl), hd_tex (A := B.nck) (M := isEmp) (fun _ => rfl) (fun _ => rfl), seq_K _ _ (by rfl)]; rfl)
  rw [HE.out]
  obtain ⟨q, p, A, c', rfl, hq, c0, c1, c2, c3, c4, hcc, hkid⟩ := InT.open hv
  rw [hk] at c0
  have cH := named_any x f w _ hv hn.hs.1
  have cT : ∀ w1, Up w w1 → Calls Try.prog 50 #[.pointer (some ⟨q, p, none⟩), .slice (some ⟨w1.heap.size, 0, none⟩) 1 1] (w1.alloc (.cells #[.func (.func 38) #[] #[]] 71)) (TelB (seqK (IF f) [3]) (w1.alloc (.cells #[.func (.func 38) #[] #[]] 71))) := fun w1 u => kids_seq [3] x f _ _ _ _ (Nx.up hx (u.alloc _)) (hv.up (u.alloc _)) hn.hf (by decide) (fns_lit (fnsC [3]) (heap_alloc_new w1 _)) (good_kids hn (by decide))
  obtain ⟨hb, hhb⟩ : ∃ hb, texB x B.nck isEmp = hb := ⟨_, rfl⟩
  obtain ⟨tb, htb⟩ : ∃ tb, seqK (IF f) [3] = tb := ⟨_, rfl⟩
  rw [hhb, htb]
  rw [hhb] at cH
  rw [htb] at cT
  clear HE hhb htb hv hk hn hx hq c1 c2 c3 c4 hcc hkid
  cases hb
  · go_enter Try.func41, Try.ntmps41
    go_wp2_with fail
    refine cH.mono ?_
    rintro e w1 ⟨rfl, u1⟩
    go_wp2_with fail
    go_ret
    exact tel_ret rfl u1
  · go_enter Try.func41, Try.ntmps41
    go_wp2_with fail
    refine cH.mono ?_
    rintro e w1 ⟨rfl, u1⟩
    go_wp2_with fail
    refine (cT w1 u1).mono ?_
    rintro e w2 ⟨rfl, u2⟩
    go_wp2_with fail
    go_ret
    exact tel_ret (by cases tb <;> rfl) (Up.trans (u1.alloc _) u2)
set_option maxHeartbeats 3200000 in
set_option maxRecDepth 100000 in
theorem isDecl_74 (x : Nod) (f : Fr) (w : World) (v : Value) (hk : x.k = 74) (hn : Nd1 x f) (hx : B.Nx w) (hv : HasT w v (some (x, f))) : Calls Try.prog 41 #[v] w (TelB (isT B.nck B.long (x, f) 6) w) := by
  have HE : Hid (isT B.nck B.long (x, f) 6 = (texB x B.nck isEmp && seqK (IF f) [4])) := Lib.hid (by show isX _ _ x (IF f) 6 = _; rw [isX_one hk (by rfl), hd_tex (A := B.nck) (M := isEmp) (fun _ => rfl) (fun _ => rfl), seq_K _ _ (by rfl)]; rfl)
  rw [HE.out]
  obtain ⟨q, p, A, c', rfl, hq, c0, c1, c2, c3, c4, hcc, hkid⟩ := InT.open hv
  rw [hk] at c0
  have cH := named_any x f w _ hv hn.hs.1
  have cT : ∀ w1, Up w w1 → Calls Try.prog 50 #[.pointer (some ⟨q, p, none⟩), .slice (some ⟨w1.heap.size, 0, none⟩) 1 1] (w1.alloc (.cells #[.func (.func 39) #[] #[]] 71)) (TelB (seqK (IF f) [4]) (w1.alloc (.cells #[.func (.func 39) #[] #[]] 71))) := fun w1 u => kids_seq [4] x f _ _ _ _ (Nx.up hx (u.alloc _)) (hv.up (u.alloc _)) hn.hf (by decide) (fns_lit (fnsC [4]) (heap_alloc_new w1 _)) (good_kids hn (by decide))
  obtain ⟨hb, hhb⟩ : ∃ hb, texB x B.nck isEmp = hb := ⟨_, rfl⟩
  obtain ⟨tb, htb⟩ : ∃ tb, seqK (IF f) [4] = tb := ⟨_, rfl⟩
  rw [hhb, htb]
  rw [hhb] at cH
  rw [htb] at cT
  clear HE hhb htb hv hk hn hx hq c1 c2 c3 c4 hcc hkid
  cases hb
  · go_enter Try.func41, Try.ntmps41
    go_wp2_with fail
    refine cH.mono ?_
    rintro e w1 ⟨rfl, u1⟩
    go_wp2_with fail
    go_ret
    exact tel_ret rfl u1
  · go_enter Try.func41, Try.ntmps41
    go_wp2_with fail
    refine cH.mono ?_
    rintro e w1 ⟨rfl, u1⟩
    go_wp2_with fail
    refine (cT w1 u1).mono ?_
    rintro e w2 ⟨rfl, u2⟩
    go_wp2_with fail
    go_ret
    exact tel_ret (by cases tb <;> rfl) (Up.trans (u1.alloc _) u2)
set_option maxHeartbeats 3200000 in
set_option maxRecDepth 100000 in
theorem isDecl_75 (x : Nod) (f : Fr) (w : World) (v : Value) (hk : x.k = 75) (hn : Nd1 x f) (hx : B.Nx w) (hv : HasT w v (some (x, f))) : Calls Try.prog 41 #[v] w (TelB (isT B.nck B.long (x, f) 6) w) := by
  have HE : Hid (isT B.nck B.long (x, f) 6 = (texB x B.nck B.nck && seqK (IF f) [4, 3])) := Lib.hid (by show isX _ _ x (IF f) 6 = _; rw [isX_one hk (by rfl), hd_tex (A := B.nck) (M := B.nck) (fun _ => rfl) (fun _ => rfl), seq_K _ _ (by rfl)]; rfl)
  rw [HE.out]
  obtain ⟨q, p, A, c', rfl, hq, c0, c1, c2, c3, c4, hcc, hkid⟩ := InT.open hv
  rw [hk] at c0
  have cH := names2_any x f w _ hv hn.hs.1 hn.hs.2.1
  have cT : ∀ w1, Up w w1 → Calls Try.prog 50 #[.pointer (some ⟨q, p, none⟩), .slice (some ⟨w1.heap.size, 0, none⟩) 2 2] (w1.alloc (.cells #[.func (.func 39) #[] #[], .func (.func 38) #[] #[]] 71)) (TelB (seqK (IF f) [4, 3]) (w1.alloc (.cells #[.func (.func 39) #[] #[], .func (.func 38) #[] #[]] 71))) := fun w1 u => kids_seq [4, 3] x f _ _ _ _ (Nx.up hx (u.alloc _)) (hv.up (u.alloc _)) hn.hf (by decide) (fns_lit (fnsC [4, 3]) (heap_alloc_new w1 _)) (good_kids hn (by decide))
  obtain ⟨hb, hhb⟩ : ∃ hb, texB x B.nck B.nck = hb := ⟨_, rfl⟩
  obtain ⟨tb, htb⟩ : ∃ tb, seqK (IF f) [4, 3] = tb := ⟨_, rfl⟩
  rw [hhb, htb]
  rw [hhb] at cH
  rw [htb] at cT
  clear HE hhb htb hv hk hn hx hq c1 c2 c3 c4 hcc hkid
  cases hb
  · go_enter Try.func41, Try.ntmps41
    go_wp2_with fail
    refine cH.mono ?_
    rintro e w1 ⟨rfl, u1⟩
    go_wp2_with fail
    go_ret
    exact tel_ret rfl u1
  · go_enter Try.func41, Try.ntmps41
    go_wp2_with fail
    refine cH.mono ?_
    rintro e w1 ⟨rfl, u1⟩
    go_wp2_with fail
    refine (cT w1 u1).mono ?_
    rintro e w2 ⟨rfl, u2⟩
    go_wp2_with fail
    go_ret
    exact tel_ret (by cases tb <;> rfl) (Up.trans (u1.alloc _) u2)
set_option maxHeartbeats 3200000 in
set_option maxRecDepth 100000 in
theorem isDecl_76 (x : Nod) (f : Fr) (w : World) (v : Value) (hk : x.k = 76) (hn : Nd1 x f) (hx : B.Nx w) (hv : HasT w v (some (x, f))) : Calls Try.prog 41 #[v] w (TelB (isT B.nck B.long (x, f) 6) w) := by
  have HE : Hid (isT B.nck B.long (x, f) 6 = (texB x B.long isEmp && seqK (IF f) [])) := Lib.hid (by show isX _ _ x (IF f) 6 = _; rw [isX_one hk (by rfl), hd_tex (A := B.long) (M := isEmp) (fun _ => rfl) (fun _ => rfl), seq_K _ _ (by rfl)]; rfl)
  rw [HE.out]
  obtain ⟨q, p, A, c', rfl, hq, c0, c1, c2, c3, c4, hcc, hkid⟩ := InT.open hv
  rw [hk] at c0
  have cH := longd_any x f w _ hv hn.hs.1 hx
  have cT : ∀ w1, Up w w1 → Calls Try.prog 50 #[.pointer (some ⟨q, p, none⟩), .slice none 0 0] w1 (TelB (seqK (IF f) []) w1) := fun w1 u => kids_seq [] x f w1 _ none 0 (Nx.up hx u) (hv.up u) hn.hf (by decide) (fun _ _ _ h => by cases h) (fun _ _ _ _ h => by cases h)
  obtain ⟨hb, hhb⟩ : ∃ hb, texB x B.long isEmp = hb := ⟨_, rfl⟩
  obtain ⟨tb, htb⟩ : ∃ tb, seqK (IF f) [] = tb := ⟨_, rfl⟩
  rw [hhb, htb]
  rw [hhb] at cH
  rw [htb] at cT
  clear HE hhb htb hv hk hn hx hq c1 c2 c3 c4 hcc hkid
  cases hb
  · go_enter Try.func41, Try.ntmps41
    go_wp2_with fail
    refine cH.mono ?_
    rintro e w1 ⟨rfl, u1⟩
    go_wp2_with fail
    go_ret
    exact tel_ret rfl u1
  · go_enter Try.func41, Try.ntmps41
    go_wp2_with fail
    refine cH.mono ?_
    rintro e w1 ⟨rfl, u1⟩
    go_wp2_with fail
    refine (cT w1 u1).mono ?_
    rintro e w2 ⟨rfl, u2⟩
    go_wp2_with fail
    go_ret
    exact tel_ret (by cases tb <;> rfl) (Up.trans (u1) u2)
set_option maxHeartbeats 3200000 in
set_option maxRecDepth 100000 in
theorem isDecl_77 (x : Nod) (f : Fr) (w : World) (v : Value) (hk : x.k = 77) (hn : Nd1 x f) (hx : B.Nx w) (hv : HasT w v (some (x, f))) : Calls Try.prog 41 #[v] w (TelB (isT B.nck B.long (x, f) 6) w) := by
  have HE : Hid (isT B.nck B.long (x, f) 6 = (texB x B.long isEmp && seqK (IF f) [])) := Lib.hid (by show isX _ _ x (IF f) 6 = _; rw [isX_one hk (by rfl), hd_tex (A := B.long) (M := isEmp) (fun _ => rfl) (fun _ => rfl), seq_K _ _ (by rfl)]; rfl)
  rw [HE.out]
  obtain ⟨q, p, A, c', rfl, hq, c0, c1, c2, c3, c4, hcc, hkid⟩ := InT.open hv
  rw [hk] at c0
  have cH := longd_any x f w _ hv hn.hs.1 hx
  have cT : ∀ w1, Up w w1 → Calls Try.prog 50 #[.pointer (some ⟨q, p, none⟩), .slice none 0 0] w1 (TelB (seqK (IF f) []) w1) := fun w1 u => kids_seq [] x f w1 _ none 0 (Nx.up hx u) (hv.up u) hn.hf (by decide) (fun _ _ _ h => by cases h) (fun _ _ _ _ h => by cases h)
  obtain ⟨hb, hhb⟩ : ∃ hb, texB x B.long isEmp = hb := ⟨_, rfl⟩
  obtain ⟨tb, htb⟩ : ∃ tb, seqK (IF f) [] = tb := ⟨_, rfl⟩
  rw [hhb, htb]
  rw [hhb] at cH
  rw [htb] at cT
  clear HE hhb htb hv hk hn hx hq c1 c2 c3 c4 hcc hkid
  cases hb
  · go_enter Try.func41, Try.ntmps41
    go_wp2_with fail
    refine cH.mono ?_
    rintro e w1 ⟨rfl, u1⟩
    go_wp2_with fail
    go_ret
    exact tel_ret rfl u1
  · go_enter Try.func41, Try.ntmps41
    go_wp2_with fail
    refine cH.mono ?_
    rintro e w1 ⟨rfl, u1⟩
    go_wp2_with fail
    refine (cT w1 u1).mono ?_
    rintro e w2 ⟨rfl, u2⟩
    go_wp2_with fail
    go_ret
    exact tel_ret (by cases tb <;> rfl) (Up.trans (u1) u2)
theorem rows_isDecl : ∀ r ∈ RWS, r.cat = 6 → r.kind ∈ [(70 : Int), (71 : Int), (72 : Int), (73 : Int), (74 : Int), (75 : Int), (76 : Int), (77 : Int)] := by decide
set_option maxHeartbeats 3200000 in
set_option maxRecDepth 100000 in
theorem isDecl_none (x : Nod) (f : Fr) (w : World) (v : Value) (n70 : ¬ x.k = 70) (n71 : ¬ x.k = 71) (n72 : ¬ x.k = 72) (n73 : ¬ x.k = 73) (n74 : ¬ x.k = 74) (n75 : ¬ x.k = 75) (n76 : ¬ x.k = 76) (n77 : ¬ x.k = 77) (hv : HasT w v (some (x, f))) : Calls Try.prog 41 #[v] w (TelB (isT B.nck B.long (x, f) 6) w) := by
  have HE : Hid (isT B.nck B.long (x, f) 6 = false) := Lib.hid (isX_none fun r hr hc e => by have := rows_isDecl r hr hc; rw [e] at this; simp only [List.mem_cons, List.not_mem_nil, or_false] at this; omega)
  rw [HE.out]
  obtain ⟨q, p, A, c', rfl, hq, c0, c1, c2, c3, c4, hcc, hkid⟩ := InT.open hv
  clear hv HE hq c1 c2 c3 c4 hcc hkid
  go_enter Try.func41, Try.ntmps41
  go_wp2_with fail
  go_ret
  exact tel_ret rfl (Up.refl _)
theorem isDecl_any (x : Nod) (f : Fr) (hn : Nd1 x f) : TelAt 41 (isT B.nck B.long (x, f) 6) (x, f) := fun w v hx hv => by
  by_cases n70 : x.k = 70
  · exact isDecl_70 x f w v n70 hn hx hv
  by_cases n71 : x.k = 71
  · exact isDecl_71 x f w v n71 hn hx hv
  by_cases n72 : x.k = 72
  · exact isDecl_72 x f w v n72 hn hx hv
  by_cases n73 : x.k = 73
  · exact isDecl_73 x f w v n73 hn hx hv
  by_cases n74 : x.k = 74
  · exact isDecl_74 x f w v n74 hn hx hv
  by_cases n75 : x.k = 75
  · exact isDecl_75 x f w v n75 hn hx hv
  by_cases n76 : x.k = 76
  · exact isDecl_76 x f w v n76 hn hx hv
  by_cases n77 : x.k = 77
  · exact isDecl_77 x f w v n77 hn hx hv
  exact isDecl_none x f w v n70 n71 n72 n73 n74 n75 n76 n77 hv
end Go.Proofs.Ytoejegndbcbkmaa
/-
  Layer 5: the program's isArm, isProg, the check of what lies in a structure; then all its checks, of every tree.
-/
namespace Go.Proofs.Ytoejegndbcbkmaa
open Go.RowKit

theorem rows_9 : ∀ r ∈ RWS, r.cat = 9 → r.kind = 34 := by decide
set_option maxHeartbeats 3200000 in
set_option maxRecDepth 100000 in
theorem isArm_any (x : Nod) (f : Fr) (hn : Nd1 x f) : TelAt 55 (isT B.nck B.long (x, f) 9) (x, f) := fun w v hx hv => by
  by_cases hk : x.k = 34
  · have HE : Hid (isT B.nck B.long (x, f) 9 = (texB x B.nck B.nck && seqK (IF f) [2])) := Lib.hid (by show isX _ _ x (IF f) 9 = _; rw [isX_one hk (by rfl), hd_tex (A := B.nck) (M := B.nck) (fun _ => rfl) (fun _ => rfl), seq_K _ _ (by rfl)]; rfl)
    rw [HE.out]
    obtain ⟨q, p, A, c', rfl, hq, c0, c1, c2, c3, c4, hcc, hkid⟩ := InT.open hv
    rw [hk] at c0
    have cH := names2_any x f w _ hv hn.hs.1 hn.hs.2.1
    have cT : ∀ w1, Up w w1 → Calls Try.prog 50 #[.pointer (some ⟨q, p, none⟩), .slice (some ⟨w1.heap.size, 0, none⟩) 1 1] (w1.alloc (.cells #[.func (.func 30) #[] #[]] 71)) (TelB (seqK (IF f) [2]) (w1.alloc (.cells #[.func (.func 30) #[] #[]] 71))) := fun w1 u => kids_seq [2] x f _ _ _ _ (Nx.up hx (u.alloc _)) (hv.up (u.alloc _)) hn.hf (by decide) (fns_lit (fnsC [2]) (heap_alloc_new w1 _)) (good_kids hn (by decide))
    obtain ⟨hb, hhb⟩ : ∃ hb, texB x B.nck B.nck = hb := ⟨_, rfl⟩
    obtain ⟨tb, htb⟩ : ∃ tb, seqK (IF f) [2] = tb := ⟨_, rfl⟩
    rw [hhb, htb]
    rw [hhb] at cH
    rw [htb] at cT
    clear HE hhb htb hv hk hn hx hq c1 c2 c3 c4 hcc hkid
    cases hb
    · go_enter Try.func55, Try.ntmps55
      go_wp2_with fail
      refine cH.mono ?_
      rintro e w1 ⟨rfl, u1⟩
      go_wp2_with fail
      go_ret
      exact tel_ret rfl u1
    · go_enter Try.func55, Try.ntmps55
      go_wp2_with fail
      refine cH.mono ?_
      rintro e w1 ⟨rfl, u1⟩
      go_wp2_with fail
      refine (cT w1 u1).mono ?_
      rintro e w2 ⟨rfl, u2⟩
      go_wp2_with fail
      go_ret
      exact tel_ret (by cases tb <;> rfl) (Up.trans (u1.alloc _) u2)
  · have HE : Hid (isT B.nck B.long (x, f) 9 = false) := Lib.hid (isX_none fun r hr hc e => hk (by rw [← e]; exact rows_9 r hr hc))
    rw [HE.out]
    obtain ⟨q, p, A, c', rfl, hq, c0, c1, c2, c3, c4, hcc, hkid⟩ := InT.open hv
    clear hv HE hq c1 c2 c3 c4 hcc hkid
    go_enter Try.func55, Try.ntmps55
    go_wp2_with fail
    go_ret
    exact tel_ret rfl (Up.refl _)
set_option maxHeartbeats 3200000 in
set_option maxRecDepth 100000 in
theorem inM_any (x : Nod) (f : Fr) (h6 : TelAt 41 (isT B.nck B.long (x, f) 6) (x, f)) : TelAt 60 (inM (IT (x, f))) (x, f) := fun w v hx hv => by
  obtain ⟨b, hb⟩ : ∃ b, isT B.nck B.long (x, f) 6 = b := ⟨_, rfl⟩
  have HE : Hid (inM (IT (x, f)) = (!decide (x.k = 74) && !decide (x.k = 75) && b)) := Lib.hid (by rw [← hb]; rfl)
  rw [HE.out]
  have cT := h6 w v hx hv
  rw [hb] at cT
  obtain ⟨q, p, A, c', rfl, hq, c0, c1, c2, c3, c4, hcc, hkid⟩ := InT.open hv
  clear hv HE hq c1 c2 c3 c4 hcc hkid h6 hb hx
  by_cases n1 : x.k = 74
  · rw [n1] at c0 ⊢
    go_enter Try.func60, Try.ntmps60
    go_wp2_with fail
    go_ret
    exact tel_ret rfl (Up.refl _)
  · by_cases n2 : x.k = 75
    · rw [n2] at c0 ⊢
      go_enter Try.func60, Try.ntmps60
      go_wp2_with fail
      go_ret
      exact tel_ret rfl (Up.refl _)
    · have HE : Hid ((!decide (x.k = 74) && !decide (x.k = 75) && b) = b) := Lib.hid (by rw [decide_eq_false n1, decide_eq_false n2]; rfl)
      rw [HE.out]
      go_enter Try.func60, Try.ntmps60
      go_wp2_with fail
      refine cT.mono ?_
      rintro e w1 ⟨rfl, u1⟩
      go_wp2_with fail
      go_ret
      exact tel_ret (by simp [n1, n2]) u1
theorem rows_7 : ∀ r ∈ RWS, r.cat = 7 → r.kind = 80 := by decide
set_option maxHeartbeats 3200000 in
set_option maxRecDepth 100000 in
theorem isProg_any (x : Nod) (f : Fr) (hn : Nd1 x f) : TelAt 31 (isT B.nck B.long (x, f) 7) (x, f) := fun w v hx hv => by
  by_cases hk : x.k = 80
  · have HE : Hid (isT B.nck B.long (x, f) 7 = (numB x 0 0 && rowB [] 0 (fun i => i.is 6) (IF f))) := Lib.hid (by show isX _ _ x (IF f) 7 = _; rw [isX_one hk (by rfl), hd_num, star_100])
    rw [HE.out]
    obtain ⟨q, p, A, c', rfl, hq, c0, c1, c2, c3, c4, hcc, hkid⟩ := InT.open hv
    rw [hk] at c0
    have cH := plain_any x f w _ hv
    have cT : ∀ w1, Up w w1 → Calls Try.prog 54 #[.pointer (some ⟨q, p, none⟩), .int .i64 0, .func (.func 41) #[] #[], .slice none 0 0] w1 (TelB (rowB [] 0 (fun i => i.is 6) (IF f)) w1) := fun w1 u => row_seq [] 0 41 (fun i => i.is 6) x f w1 _ none 0 (fun _ _ => by kernel_rfl) (by omega) (Nx.up hx u) (hv.up u) hn.hf (by decide) (.inl ⟨rfl, rfl⟩) (fun _ _ _ _ h => by cases h) (fun i t h => (hn.ih i t h).a6)
    obtain ⟨hb, hhb⟩ : ∃ hb, numB x 0 0 = hb := ⟨_, rfl⟩
    obtain ⟨tb, htb⟩ : ∃ tb, rowB [] 0 (fun i => i.is 6) (IF f) = tb := ⟨_, rfl⟩
    rw [hhb, htb]
    rw [hhb] at cH
    rw [htb] at cT
    clear HE hhb htb hv hk hn hx hq c1 c2 c3 c4 hcc hkid
    cases hb
    · go_enter Try.func31, Try.ntmps31
      go_wp2_with fail
      refine cH.mono ?_
      rintro e w1 ⟨rfl, u1⟩
      go_wp2_with fail
      go_ret
      exact tel_ret rfl u1
    · go_enter Try.func31, Try.ntmps31
      go_wp2_with fail
      refine cH.mono ?_
      rintro e w1 ⟨rfl, u1⟩
      go_wp2_with fail
      refine (cT w1 u1).mono ?_
      rintro e w2 ⟨rfl, u2⟩
      go_wp2_with fail
      go_ret
      exact tel_ret (by cases tb <;> rfl) (Up.trans u1 u2)
  · have HE : Hid (isT B.nck B.long (x, f) 7 = false) := Lib.hid (isX_none fun r hr hc e => hk (by rw [← e]; exact rows_7 r hr hc))
    rw [HE.out]
    obtain ⟨q, p, A, c', rfl, hq, c0, c1, c2, c3, c4, hcc, hkid⟩ := InT.open hv
    clear hv HE hq c1 c2 c3 c4 hcc hkid
    go_enter Try.func31, Try.ntmps31
    go_wp2_with fail
    go_ret
    exact tel_ret rfl (Up.refl _)
/-! ### all checks, of every tree -/
theorem nd_all : ∀ (n : Nat) (t : Tr), szT t ≤ n → n ≤ 60000 → okST t → Good t ∧ Nd1 t.1 t.2
  | 0, t, h, _, _ => absurd h (by unfold szT; omega)
  | n + 1, (x, f), h, hb, hs => by
    have h1 : szT (x, f) = 1 + f.sz := rfl
    have h2 := Fr.len_le f
    have hn : Nd1 x f := ⟨hs, by omega, fun i t hi => (nd_all n t (by have := Fr.get_sz hi; omega) (by omega) (okS_get hs.2.2 hi)).1⟩
    have a6 := isDecl_any x f hn
    exact ⟨⟨isType_any x f hn, isExpr_any x f hn, isMod_any x f hn, isSig_any x f hn, isSpec_any x f hn, a6, isArm_any x f hn, inM_any x f a6, hn.hf, fun j s hj => (hn.ih j s hj).a1⟩, hn⟩
end Go.Proofs.Ytoejegndbcbkmaa
