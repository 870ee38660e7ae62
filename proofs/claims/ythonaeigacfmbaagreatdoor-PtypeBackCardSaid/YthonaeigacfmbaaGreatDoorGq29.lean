/-
  Layer 5, the program's isType, isExpr: what they tell of a node, Kind by Kind (written by gsh.py).
-/
import Derived.Test.YthonaeigacfmbaaGreatDoorGq28
namespace Go.Proofs.YthonaeigacfmbaaGreatDoor
open Go.RowKit

set_option maxHeartbeats 3200000 in
set_option maxRecDepth 100000 in
theorem isType_1 (x : Nod) (f : Fr) (w : World) (v : Value) (hk : x.k = 1) (hn : Nd1 x f) (hx : B.Nx w) (hv : HasT w v (some (x, f))) : Calls Tryz.prog 76 #[v] w (TelB (isT B.nck B.long (x, f) 1) w) := by
  have HE : Hid (isT B.nck B.long (x, f) 1 = (numB x 0 0 && seqK (IF f) [])) := Lib.hid (by show isX _ _ x (IF f) 1 = _; rw [isX_one hk (by rfl), hd_num, seq_K _ _ (by rfl)]; rfl)
  rw [HE.out]
  obtain ⟨q, p, A, c', rfl, hq, c0, c1, c2, c3, c4, hcc, hkid⟩ := InT.open hv
  rw [hk] at c0
  have cH := plain_any x f w _ hv
  have cT : ∀ w1, Up w w1 → Calls Tryz.prog 131 #[.pointer (some ⟨q, p, none⟩), .slice none 0 0] w1 (TelB (seqK (IF f) []) w1) := fun w1 u => kids_seq [] x f w1 _ none 0 (Nx.up hx u) (hv.up u) hn.hf (by decide) (fun _ _ _ h => by cases h) (fun _ _ _ _ h => by cases h)
  obtain ⟨hb, hhb⟩ : ∃ hb, numB x 0 0 = hb := ⟨_, rfl⟩
  obtain ⟨tb, htb⟩ : ∃ tb, seqK (IF f) [] = tb := ⟨_, rfl⟩
  rw [hhb, htb]
  rw [hhb] at cH
  rw [htb] at cT
  clear HE hhb htb hv hk hn hx hq c1 c2 c3 c4 hcc hkid
  cases hb
  · go_enter Tryz.func76, Tryz.ntmps76
    go_wp2_with fail
    refine cH.mono ?_
    rintro e w1 ⟨rfl, u1⟩
    go_wp2_with fail
    go_ret
    exact tel_ret rfl u1
  · go_enter Tryz.func76, Tryz.ntmps76
    go_wp2_with fail
    refine cH.mono ?_
    rintro e w1 ⟨rfl, u1⟩
    go_wp2_with fail
    refine (cT w1 u1).mono ?_
    rintro e w2 ⟨rfl, u2⟩
    go_wp2_with fail
    go_ret
    exact tel_ret (by cases tb <;> rfl) (Up.trans (u1) u2)
set_option maxHeartbeats 3200000 in
set_option maxRecDepth 100000 in
theorem isType_2 (x : Nod) (f : Fr) (w : World) (v : Value) (hk : x.k = 2) (hn : Nd1 x f) (hx : B.Nx w) (hv : HasT w v (some (x, f))) : Calls Tryz.prog 76 #[v] w (TelB (isT B.nck B.long (x, f) 1) w) := by
  have HE : Hid (isT B.nck B.long (x, f) 1 = (numB x 0 0 && seqK (IF f) [])) := Lib.hid (by show isX _ _ x (IF f) 1 = _; rw [isX_one hk (by rfl), hd_num, seq_K _ _ (by rfl)]; rfl)
  rw [HE.out]
  obtain ⟨q, p, A, c', rfl, hq, c0, c1, c2, c3, c4, hcc, hkid⟩ := InT.open hv
  rw [hk] at c0
  have cH := plain_any x f w _ hv
  have cT : ∀ w1, Up w w1 → Calls Tryz.prog 131 #[.pointer (some ⟨q, p, none⟩), .slice none 0 0] w1 (TelB (seqK (IF f) []) w1) := fun w1 u => kids_seq [] x f w1 _ none 0 (Nx.up hx u) (hv.up u) hn.hf (by decide) (fun _ _ _ h => by cases h) (fun _ _ _ _ h => by cases h)
  obtain ⟨hb, hhb⟩ : ∃ hb, numB x 0 0 = hb := ⟨_, rfl⟩
  obtain ⟨tb, htb⟩ : ∃ tb, seqK (IF f) [] = tb := ⟨_, rfl⟩
  rw [hhb, htb]
  rw [hhb] at cH
  rw [htb] at cT
  clear HE hhb htb hv hk hn hx hq c1 c2 c3 c4 hcc hkid
  cases hb
  · go_enter Tryz.func76, Tryz.ntmps76
    go_wp2_with fail
    refine cH.mono ?_
    rintro e w1 ⟨rfl, u1⟩
    go_wp2_with fail
    go_ret
    exact tel_ret rfl u1
  · go_enter Tryz.func76, Tryz.ntmps76
    go_wp2_with fail
    refine cH.mono ?_
    rintro e w1 ⟨rfl, u1⟩
    go_wp2_with fail
    refine (cT w1 u1).mono ?_
    rintro e w2 ⟨rfl, u2⟩
    go_wp2_with fail
    go_ret
    exact tel_ret (by cases tb <;> rfl) (Up.trans (u1) u2)
set_option maxHeartbeats 3200000 in
set_option maxRecDepth 100000 in
theorem isType_3 (x : Nod) (f : Fr) (w : World) (v : Value) (hk : x.k = 3) (hn : Nd1 x f) (hx : B.Nx w) (hv : HasT w v (some (x, f))) : Calls Tryz.prog 76 #[v] w (TelB (isT B.nck B.long (x, f) 1) w) := by
  have HE : Hid (isT B.nck B.long (x, f) 1 = (numB x 0 0 && seqK (IF f) [])) := Lib.hid (by show isX _ _ x (IF f) 1 = _; rw [isX_one hk (by rfl), hd_num, seq_K _ _ (by rfl)]; rfl)
  rw [HE.out]
  obtain ⟨q, p, A, c', rfl, hq, c0, c1, c2, c3, c4, hcc, hkid⟩ := InT.open hv
  rw [hk] at c0
  have cH := plain_any x f w _ hv
  have cT : ∀ w1, Up w w1 → Calls Tryz.prog 131 #[.pointer (some ⟨q, p, none⟩), .slice none 0 0] w1 (TelB (seqK (IF f) []) w1) := fun w1 u => kids_seq [] x f w1 _ none 0 (Nx.up hx u) (hv.up u) hn.hf (by decide) (fun _ _ _ h => by cases h) (fun _ _ _ _ h => by cases h)
  obtain ⟨hb, hhb⟩ : ∃ hb, numB x 0 0 = hb := ⟨_, rfl⟩
  obtain ⟨tb, htb⟩ : ∃ tb, seqK (IF f) [] = tb := ⟨_, rfl⟩
  rw [hhb, htb]
  rw [hhb] at cH
  rw [htb] at cT
  clear HE hhb htb hv hk hn hx hq c1 c2 c3 c4 hcc hkid
  cases hb
  · go_enter Tryz.func76, Tryz.ntmps76
    go_wp2_with fail
    refine cH.mono ?_
    rintro e w1 ⟨rfl, u1⟩
    go_wp2_with fail
    go_ret
    exact tel_ret rfl u1
  · go_enter Tryz.func76, Tryz.ntmps76
    go_wp2_with fail
    refine cH.mono ?_
    rintro e w1 ⟨rfl, u1⟩
    go_wp2_with fail
    refine (cT w1 u1).mono ?_
    rintro e w2 ⟨rfl, u2⟩
    go_wp2_with fail
    go_ret
    exact tel_ret (by cases tb <;> rfl) (Up.trans (u1) u2)
set_option maxHeartbeats 3200000 in
set_option maxRecDepth 100000 in
theorem isType_4 (x : Nod) (f : Fr) (w : World) (v : Value) (hk : x.k = 4) (hn : Nd1 x f) (hx : B.Nx w) (hv : HasT w v (some (x, f))) : Calls Tryz.prog 76 #[v] w (TelB (isT B.nck B.long (x, f) 1) w) := by
  have HE : Hid (isT B.nck B.long (x, f) 1 = (texB x B.long isEmp && seqK (IF f) [])) := Lib.hid (by show isX _ _ x (IF f) 1 = _; rw [isX_one hk (by rfl), hd_tex (A := B.long) (M := isEmp) (fun _ => rfl) (fun _ => rfl), seq_K _ _ (by rfl)]; rfl)
  rw [HE.out]
  obtain ⟨q, p, A, c', rfl, hq, c0, c1, c2, c3, c4, hcc, hkid⟩ := InT.open hv
  rw [hk] at c0
  have cH := longd_any x f w _ hv hn.hs.1 hx
  have cT : ∀ w1, Up w w1 → Calls Tryz.prog 131 #[.pointer (some ⟨q, p, none⟩), .slice none 0 0] w1 (TelB (seqK (IF f) []) w1) := fun w1 u => kids_seq [] x f w1 _ none 0 (Nx.up hx u) (hv.up u) hn.hf (by decide) (fun _ _ _ h => by cases h) (fun _ _ _ _ h => by cases h)
  obtain ⟨hb, hhb⟩ : ∃ hb, texB x B.long isEmp = hb := ⟨_, rfl⟩
  obtain ⟨tb, htb⟩ : ∃ tb, seqK (IF f) [] = tb := ⟨_, rfl⟩
  rw [hhb, htb]
  rw [hhb] at cH
  rw [htb] at cT
  clear HE hhb htb hv hk hn hx hq c1 c2 c3 c4 hcc hkid
  cases hb
  · go_enter Tryz.func76, Tryz.ntmps76
    go_wp2_with fail
    refine cH.mono ?_
    rintro e w1 ⟨rfl, u1⟩
    go_wp2_with fail
    go_ret
    exact tel_ret rfl u1
  · go_enter Tryz.func76, Tryz.ntmps76
    go_wp2_with fail
    refine cH.mono ?_
    rintro e w1 ⟨rfl, u1⟩
    go_wp2_with fail
    refine (cT w1 u1).mono ?_
    rintro e w2 ⟨rfl, u2⟩
    go_wp2_with fail
    go_ret
    exact tel_ret (by cases tb <;> rfl) (Up.trans (u1) u2)
set_option maxHeartbeats 3200000 in
set_option maxRecDepth 100000 in
theorem isType_5 (x : Nod) (f : Fr) (w : World) (v : Value) (hk : x.k = 5) (hn : Nd1 x f) (hx : B.Nx w) (hv : HasT w v (some (x, f))) : Calls Tryz.prog 76 #[v] w (TelB (isT B.nck B.long (x, f) 1) w) := by
  have HE : Hid (isT B.nck B.long (x, f) 1 = (numB x 0 0 && seqK (IF f) [1, 1])) := Lib.hid (by show isX _ _ x (IF f) 1 = _; rw [isX_one hk (by rfl), hd_num, seq_K _ _ (by rfl)]; rfl)
  rw [HE.out]
  obtain ⟨q, p, A, c', rfl, hq, c0, c1, c2, c3, c4, hcc, hkid⟩ := InT.open hv
  rw [hk] at c0
  have cH := plain_any x f w _ hv
  have cT : ∀ w1, Up w w1 → Calls Tryz.prog 131 #[.pointer (some ⟨q, p, none⟩), .slice (some ⟨w1.heap.size, 0, none⟩) 2 2] (w1.alloc (.cells #[.func (.func 76) #[] #[], .func (.func 76) #[] #[]] 159)) (TelB (seqK (IF f) [1, 1]) (w1.alloc (.cells #[.func (.func 76) #[] #[], .func (.func 76) #[] #[]] 159))) := fun w1 u => kids_seq [1, 1] x f _ _ _ _ (Nx.up hx (u.alloc _)) (hv.up (u.alloc _)) hn.hf (by decide) (fns_lit (fnsC [1, 1]) (heap_alloc_new w1 _)) (good_kids hn (by decide))
  obtain ⟨hb, hhb⟩ : ∃ hb, numB x 0 0 = hb := ⟨_, rfl⟩
  obtain ⟨tb, htb⟩ : ∃ tb, seqK (IF f) [1, 1] = tb := ⟨_, rfl⟩
  rw [hhb, htb]
  rw [hhb] at cH
  rw [htb] at cT
  clear HE hhb htb hv hk hn hx hq c1 c2 c3 c4 hcc hkid
  cases hb
  · go_enter Tryz.func76, Tryz.ntmps76
    go_wp2_with fail
    refine cH.mono ?_
    rintro e w1 ⟨rfl, u1⟩
    go_wp2_with fail
    go_ret
    exact tel_ret rfl u1
  · go_enter Tryz.func76, Tryz.ntmps76
    go_wp2_with fail
    refine cH.mono ?_
    rintro e w1 ⟨rfl, u1⟩
    go_wp2_with fail
    refine (cT w1 u1).mono ?_
    rintro e w2 ⟨rfl, u2⟩
    go_wp2_with fail
    go_ret
    exact tel_ret (by cases tb <;> rfl) (Up.trans (u1.alloc _) u2)
set_option maxHeartbeats 3200000 in
set_option maxRecDepth 100000 in
theorem isType_6 (x : Nod) (f : Fr) (w : World) (v : Value) (hk : x.k = 6) (hn : Nd1 x f) (hx : B.Nx w) (hv : HasT w v (some (x, f))) : Calls Tryz.prog 76 #[v] w (TelB (isT B.nck B.long (x, f) 1) w) := by
  have HE : Hid (isT B.nck B.long (x, f) 1 = (numB x 0 0 && seqK (IF f) [1, 1])) := Lib.hid (by show isX _ _ x (IF f) 1 = _; rw [isX_one hk (by rfl), hd_num, seq_K _ _ (by rfl)]; rfl)
  rw [HE.out]
  obtain ⟨q, p, A, c', rfl, hq, c0, c1, c2, c3, c4, hcc, hkid⟩ := InT.open hv
  rw [hk] at c0
  have cH := plain_any x f w _ hv
  have cT : ∀ w1, Up w w1 → Calls Tryz.prog 131 #[.pointer (some ⟨q, p, none⟩), .slice (some ⟨w1.heap.size, 0, none⟩) 2 2] (w1.alloc (.cells #[.func (.func 76) #[] #[], .func (.func 76) #[] #[]] 159)) (TelB (seqK (IF f) [1, 1]) (w1.alloc (.cells #[.func (.func 76) #[] #[], .func (.func 76) #[] #[]] 159))) := fun w1 u => kids_seq [1, 1] x f _ _ _ _ (Nx.up hx (u.alloc _)) (hv.up (u.alloc _)) hn.hf (by decide) (fns_lit (fnsC [1, 1]) (heap_alloc_new w1 _)) (good_kids hn (by decide))
  obtain ⟨hb, hhb⟩ : ∃ hb, numB x 0 0 = hb := ⟨_, rfl⟩
  obtain ⟨tb, htb⟩ : ∃ tb, seqK (IF f) [1, 1] = tb := ⟨_, rfl⟩
  rw [hhb, htb]
  rw [hhb] at cH
  rw [htb] at cT
  clear HE hhb htb hv hk hn hx hq c1 c2 c3 c4 hcc hkid
  cases hb
  · go_enter Tryz.func76, Tryz.ntmps76
    go_wp2_with fail
    refine cH.mono ?_
    rintro e w1 ⟨rfl, u1⟩
    go_wp2_with fail
    go_ret
    exact tel_ret rfl u1
  · go_enter Tryz.func76, Tryz.ntmps76
    go_wp2_with fail
    refine cH.mono ?_
    rintro e w1 ⟨rfl, u1⟩
    go_wp2_with fail
    refine (cT w1 u1).mono ?_
    rintro e w2 ⟨rfl, u2⟩
    go_wp2_with fail
    go_ret
    exact tel_ret (by cases tb <;> rfl) (Up.trans (u1.alloc _) u2)
set_option maxHeartbeats 3200000 in
set_option maxRecDepth 100000 in
theorem isType_7 (x : Nod) (f : Fr) (w : World) (v : Value) (hk : x.k = 7) (hn : Nd1 x f) (hx : B.Nx w) (hv : HasT w v (some (x, f))) : Calls Tryz.prog 76 #[v] w (TelB (isT B.nck B.long (x, f) 1) w) := by
  have HE : Hid (isT B.nck B.long (x, f) 1 = (texB x B.nck isEmp && seqOk (IF f) [67])) := Lib.hid (by show isX _ _ x (IF f) 1 = _; rw [isX_one hk (by rfl), hd_tex (A := B.nck) (M := isEmp) (fun _ => rfl) (fun _ => rfl)])
  rw [HE.out]
  obtain ⟨q, p, A, c', rfl, hq, c0, c1, c2, c3, c4, hcc, hkid⟩ := InT.open hv
  rw [hk] at c0
  have cH := named_any x f w _ hv hn.hs.1
  have cT : ∀ w1, Up w w1 → Calls Tryz.prog 134 #[.pointer (some ⟨q, p, none⟩)] w1 (TelB (seqOk (IF f) [67]) w1) := fun w1 u => pcons_any x f w1 _ (Nx.up hx u) (hv.up u) hn.hs hn.hf fun i t h => ⟨(hn.ih i t h).ln, (hn.ih i t h).kk⟩
  obtain ⟨hb, hhb⟩ : ∃ hb, texB x B.nck isEmp = hb := ⟨_, rfl⟩
  obtain ⟨tb, htb⟩ : ∃ tb, seqOk (IF f) [67] = tb := ⟨_, rfl⟩
  rw [hhb, htb]
  rw [hhb] at cH
  rw [htb] at cT
  clear HE hhb htb hv hk hn hx hq c1 c2 c3 c4 hcc hkid
  cases hb
  · go_enter Tryz.func76, Tryz.ntmps76
    go_wp2_with fail
    refine cH.mono ?_
    rintro e w1 ⟨rfl, u1⟩
    go_wp2_with fail
    go_ret
    exact tel_ret rfl u1
  · go_enter Tryz.func76, Tryz.ntmps76
    go_wp2_with fail
    refine cH.mono ?_
    rintro e w1 ⟨rfl, u1⟩
    go_wp2_with fail
    refine (cT w1 u1).mono ?_
    rintro e w2 ⟨rfl, u2⟩
    go_wp2_with fail
    go_ret
    exact tel_ret (by cases tb <;> rfl) (Up.trans (u1) u2)
theorem rows_isType : ∀ r ∈ RWS, r.cat = 1 → r.kind ∈ [(1 : Int), (2 : Int), (3 : Int), (4 : Int), (5 : Int), (6 : Int), (7 : Int)] := by decide
set_option maxHeartbeats 3200000 in
set_option maxRecDepth 100000 in
theorem isType_none (x : Nod) (f : Fr) (w : World) (v : Value) (n1 : ¬ x.k = 1) (n2 : ¬ x.k = 2) (n3 : ¬ x.k = 3) (n4 : ¬ x.k = 4) (n5 : ¬ x.k = 5) (n6 : ¬ x.k = 6) (n7 : ¬ x.k = 7) (hv : HasT w v (some (x, f))) : Calls Tryz.prog 76 #[v] w (TelB (isT B.nck B.long (x, f) 1) w) := by
  have HE : Hid (isT B.nck B.long (x, f) 1 = false) := Lib.hid (isX_none fun r hr hc e => by have := rows_isType r hr hc; rw [e] at this; simp only [List.mem_cons, List.not_mem_nil, or_false] at this; omega)
  rw [HE.out]
  obtain ⟨q, p, A, c', rfl, hq, c0, c1, c2, c3, c4, hcc, hkid⟩ := InT.open hv
  clear hv HE hq c1 c2 c3 c4 hcc hkid
  go_enter Tryz.func76, Tryz.ntmps76
  go_wp2_with fail
  go_ret
  exact tel_ret rfl (Up.refl _)
theorem isType_any (x : Nod) (f : Fr) (hn : Nd1 x f) : TelAt 76 (isT B.nck B.long (x, f) 1) (x, f) := fun w v hx hv => by
  by_cases n1 : x.k = 1
  · exact isType_1 x f w v n1 hn hx hv
  by_cases n2 : x.k = 2
  · exact isType_2 x f w v n2 hn hx hv
  by_cases n3 : x.k = 3
  · exact isType_3 x f w v n3 hn hx hv
  by_cases n4 : x.k = 4
  · exact isType_4 x f w v n4 hn hx hv
  by_cases n5 : x.k = 5
  · exact isType_5 x f w v n5 hn hx hv
  by_cases n6 : x.k = 6
  · exact isType_6 x f w v n6 hn hx hv
  by_cases n7 : x.k = 7
  · exact isType_7 x f w v n7 hn hx hv
  exact isType_none x f w v n1 n2 n3 n4 n5 n6 n7 hv
set_option maxHeartbeats 3200000 in
set_option maxRecDepth 100000 in
theorem isExpr_20 (x : Nod) (f : Fr) (w : World) (v : Value) (hk : x.k = 20) (hn : Nd1 x f) (hx : B.Nx w) (hv : HasT w v (some (x, f))) : Calls Tryz.prog 83 #[v] w (TelB (isT B.nck B.long (x, f) 2) w) := by
  have HE : Hid (isT B.nck B.long (x, f) 2 = (numB x (-1073741824) 1073741824 && seqK (IF f) [])) := Lib.hid (by show isX _ _ x (IF f) 2 = _; rw [isX_one hk (by rfl), hd_num, seq_K _ _ (by rfl)]; rfl)
  rw [HE.out]
  obtain ⟨q, p, A, c', rfl, hq, c0, c1, c2, c3, c4, hcc, hkid⟩ := InT.open hv
  rw [hk] at c0
  have cH := number_any x f (-1073741824) 1073741824 w _ hv
  have cT : ∀ w1, Up w w1 → Calls Tryz.prog 131 #[.pointer (some ⟨q, p, none⟩), .slice none 0 0] w1 (TelB (seqK (IF f) []) w1) := fun w1 u => kids_seq [] x f w1 _ none 0 (Nx.up hx u) (hv.up u) hn.hf (by decide) (fun _ _ _ h => by cases h) (fun _ _ _ _ h => by cases h)
  obtain ⟨hb, hhb⟩ : ∃ hb, numB x (-1073741824) 1073741824 = hb := ⟨_, rfl⟩
  obtain ⟨tb, htb⟩ : ∃ tb, seqK (IF f) [] = tb := ⟨_, rfl⟩
  rw [hhb, htb]
  rw [hhb] at cH
  rw [htb] at cT
  clear HE hhb htb hv hk hn hx hq c1 c2 c3 c4 hcc hkid
  cases hb
  · go_enter Tryz.func83, Tryz.ntmps83
    go_wp2_with fail
    refine cH.mono ?_
    rintro e w1 ⟨rfl, u1⟩
    go_wp2_with fail
    go_ret
    exact tel_ret rfl u1
  · go_enter Tryz.func83, Tryz.ntmps83
    go_wp2_with fail
    refine cH.mono ?_
    rintro e w1 ⟨rfl, u1⟩
    go_wp2_with fail
    refine (cT w1 u1).mono ?_
    rintro e w2 ⟨rfl, u2⟩
    go_wp2_with fail
    go_ret
    exact tel_ret (by cases tb <;> rfl) (Up.trans (u1) u2)
set_option maxHeartbeats 3200000 in
set_option maxRecDepth 100000 in
theorem isExpr_21 (x : Nod) (f : Fr) (w : World) (v : Value) (hk : x.k = 21) (hn : Nd1 x f) (hx : B.Nx w) (hv : HasT w v (some (x, f))) : Calls Tryz.prog 83 #[v] w (TelB (isT B.nck B.long (x, f) 2) w) := by
  have HE : Hid (isT B.nck B.long (x, f) 2 = (numB x 0 1 && seqK (IF f) [])) := Lib.hid (by show isX _ _ x (IF f) 2 = _; rw [isX_one hk (by rfl), hd_num, seq_K _ _ (by rfl)]; rfl)
  rw [HE.out]
  obtain ⟨q, p, A, c', rfl, hq, c0, c1, c2, c3, c4, hcc, hkid⟩ := InT.open hv
  rw [hk] at c0
  have cH := number_any x f 0 1 w _ hv
  have cT : ∀ w1, Up w w1 → Calls Tryz.prog 131 #[.pointer (some ⟨q, p, none⟩), .slice none 0 0] w1 (TelB (seqK (IF f) []) w1) := fun w1 u => kids_seq [] x f w1 _ none 0 (Nx.up hx u) (hv.up u) hn.hf (by decide) (fun _ _ _ h => by cases h) (fun _ _ _ _ h => by cases h)
  obtain ⟨hb, hhb⟩ : ∃ hb, numB x 0 1 = hb := ⟨_, rfl⟩
  obtain ⟨tb, htb⟩ : ∃ tb, seqK (IF f) [] = tb := ⟨_, rfl⟩
  rw [hhb, htb]
  rw [hhb] at cH
  rw [htb] at cT
  clear HE hhb htb hv hk hn hx hq c1 c2 c3 c4 hcc hkid
  cases hb
  · go_enter Tryz.func83, Tryz.ntmps83
    go_wp2_with fail
    refine cH.mono ?_
    rintro e w1 ⟨rfl, u1⟩
    go_wp2_with fail
    go_ret
    exact tel_ret rfl u1
  · go_enter Tryz.func83, Tryz.ntmps83
    go_wp2_with fail
    refine cH.mono ?_
    rintro e w1 ⟨rfl, u1⟩
    go_wp2_with fail
    refine (cT w1 u1).mono ?_
    rintro e w2 ⟨rfl, u2⟩
    go_wp2_with fail
    go_ret
    exact tel_ret (by cases tb <;> rfl) (Up.trans (u1) u2)
set_option maxHeartbeats 3200000 in
set_option maxRecDepth 100000 in
theorem isExpr_22 (x : Nod) (f : Fr) (w : World) (v : Value) (hk : x.k = 22) (hn : Nd1 x f) (hx : B.Nx w) (hv : HasT w v (some (x, f))) : Calls Tryz.prog 83 #[v] w (TelB (isT B.nck B.long (x, f) 2) w) := by
  have HE : Hid (isT B.nck B.long (x, f) 2 = (numB x 0 0 && seqK (IF f) [])) := Lib.hid (by show isX _ _ x (IF f) 2 = _; rw [isX_one hk (by rfl), hd_num, seq_K _ _ (by rfl)]; rfl)
  rw [HE.out]
  obtain ⟨q, p, A, c', rfl, hq, c0, c1, c2, c3, c4, hcc, hkid⟩ := InT.open hv
  rw [hk] at c0
  have cH := plain_any x f w _ hv
  have cT : ∀ w1, Up w w1 → Calls Tryz.prog 131 #[.pointer (some ⟨q, p, none⟩), .slice none 0 0] w1 (TelB (seqK (IF f) []) w1) := fun w1 u => kids_seq [] x f w1 _ none 0 (Nx.up hx u) (hv.up u) hn.hf (by decide) (fun _ _ _ h => by cases h) (fun _ _ _ _ h => by cases h)
  obtain ⟨hb, hhb⟩ : ∃ hb, numB x 0 0 = hb := ⟨_, rfl⟩
  obtain ⟨tb, htb⟩ : ∃ tb, seqK (IF f) [] = tb := ⟨_, rfl⟩
  rw [hhb, htb]
  rw [hhb] at cH
  rw [htb] at cT
  clear HE hhb htb hv hk hn hx hq c1 c2 c3 c4 hcc hkid
  cases hb
  · go_enter Tryz.func83, Tryz.ntmps83
    go_wp2_with fail
    refine cH.mono ?_
    rintro e w1 ⟨rfl, u1⟩
    go_wp2_with fail
    go_ret
    exact tel_ret rfl u1
  · go_enter Tryz.func83, Tryz.ntmps83
    go_wp2_with fail
    refine cH.mono ?_
    rintro e w1 ⟨rfl, u1⟩
    go_wp2_with fail
    refine (cT w1 u1).mono ?_
    rintro e w2 ⟨rfl, u2⟩
    go_wp2_with fail
    go_ret
    exact tel_ret (by cases tb <;> rfl) (Up.trans (u1) u2)
set_option maxHeartbeats 3200000 in
set_option maxRecDepth 100000 in
theorem isExpr_23 (x : Nod) (f : Fr) (w : World) (v : Value) (hk : x.k = 23) (hn : Nd1 x f) (hx : B.Nx w) (hv : HasT w v (some (x, f))) : Calls Tryz.prog 83 #[v] w (TelB (isT B.nck B.long (x, f) 2) w) := by
  have HE : Hid (isT B.nck B.long (x, f) 2 = (texB x B.long isEmp && seqK (IF f) [])) := Lib.hid (by show isX _ _ x (IF f) 2 = _; rw [isX_one hk (by rfl), hd_tex (A := B.long) (M := isEmp) (fun _ => rfl) (fun _ => rfl), seq_K _ _ (by rfl)]; rfl)
  rw [HE.out]
  obtain ⟨q, p, A, c', rfl, hq, c0, c1, c2, c3, c4, hcc, hkid⟩ := InT.open hv
  rw [hk] at c0
  have cH := longd_any x f w _ hv hn.hs.1 hx
  have cT : ∀ w1, Up w w1 → Calls Tryz.prog 131 #[.pointer (some ⟨q, p, none⟩), .slice none 0 0] w1 (TelB (seqK (IF f) []) w1) := fun w1 u => kids_seq [] x f w1 _ none 0 (Nx.up hx u) (hv.up u) hn.hf (by decide) (fun _ _ _ h => by cases h) (fun _ _ _ _ h => by cases h)
  obtain ⟨hb, hhb⟩ : ∃ hb, texB x B.long isEmp = hb := ⟨_, rfl⟩
  obtain ⟨tb, htb⟩ : ∃ tb, seqK (IF f) [] = tb := ⟨_, rfl⟩
  rw [hhb, htb]
  rw [hhb] at cH
  rw [htb] at cT
  clear HE hhb htb hv hk hn hx hq c1 c2 c3 c4 hcc hkid
  cases hb
  · go_enter Tryz.func83, Tryz.ntmps83
    go_wp2_with fail
    refine cH.mono ?_
    rintro e w1 ⟨rfl, u1⟩
    go_wp2_with fail
    go_ret
    exact tel_ret rfl u1
  · go_enter Tryz.func83, Tryz.ntmps83
    go_wp2_with fail
    refine cH.mono ?_
    rintro e w1 ⟨rfl, u1⟩
    go_wp2_with fail
    refine (cT w1 u1).mono ?_
    rintro e w2 ⟨rfl, u2⟩
    go_wp2_with fail
    go_ret
    exact tel_ret (by cases tb <;> rfl) (Up.trans (u1) u2)
set_option maxHeartbeats 3200000 in
set_option maxRecDepth 100000 in
theorem isExpr_24 (x : Nod) (f : Fr) (w : World) (v : Value) (hk : x.k = 24) (hn : Nd1 x f) (hx : B.Nx w) (hv : HasT w v (some (x, f))) : Calls Tryz.prog 83 #[v] w (TelB (isT B.nck B.long (x, f) 2) w) := by
  have HE : Hid (isT B.nck B.long (x, f) 2 = (texB x B.nck isEmp && seqK (IF f) [1, 2])) := Lib.hid (by show isX _ _ x (IF f) 2 = _; rw [isX_one hk (by rfl), hd_tex (A := B.nck) (M := isEmp) (fun _ => rfl) (fun _ => rfl), seq_K _ _ (by rfl)]; rfl)
  rw [HE.out]
  obtain ⟨q, p, A, c', rfl, hq, c0, c1, c2, c3, c4, hcc, hkid⟩ := InT.open hv
  rw [hk] at c0
  have cH := named_any x f w _ hv hn.hs.1
  have cT : ∀ w1, Up w w1 → Calls Tryz.prog 131 #[.pointer (some ⟨q, p, none⟩), .slice (some ⟨w1.heap.size, 0, none⟩) 2 2] (w1.alloc (.cells #[.func (.func 76) #[] #[], .func (.func 83) #[] #[]] 159)) (TelB (seqK (IF f) [1, 2]) (w1.alloc (.cells #[.func (.func 76) #[] #[], .func (.func 83) #[] #[]] 159))) := fun w1 u => kids_seq [1, 2] x f _ _ _ _ (Nx.up hx (u.alloc _)) (hv.up (u.alloc _)) hn.hf (by decide) (fns_lit (fnsC [1, 2]) (heap_alloc_new w1 _)) (good_kids hn (by decide))
  obtain ⟨hb, hhb⟩ : ∃ hb, texB x B.nck isEmp = hb := ⟨_, rfl⟩
  obtain ⟨tb, htb⟩ : ∃ tb, seqK (IF f) [1, 2] = tb := ⟨_, rfl⟩
  rw [hhb, htb]
  rw [hhb] at cH
  rw [htb] at cT
  clear HE hhb htb hv hk hn hx hq c1 c2 c3 c4 hcc hkid
  cases hb
  · go_enter Tryz.func83, Tryz.ntmps83
    go_wp2_with fail
    refine cH.mono ?_
    rintro e w1 ⟨rfl, u1⟩
    go_wp2_with fail
    go_ret
    exact tel_ret rfl u1
  · go_enter Tryz.func83, Tryz.ntmps83
    go_wp2_with fail
    refine cH.mono ?_
    rintro e w1 ⟨rfl, u1⟩
    go_wp2_with fail
    refine (cT w1 u1).mono ?_
    rintro e w2 ⟨rfl, u2⟩
    go_wp2_with fail
    go_ret
    exact tel_ret (by cases tb <;> rfl) (Up.trans (u1.alloc _) u2)
set_option maxHeartbeats 3200000 in
set_option maxRecDepth 100000 in
theorem isExpr_25 (x : Nod) (f : Fr) (w : World) (v : Value) (hk : x.k = 25) (hn : Nd1 x f) (hx : B.Nx w) (hv : HasT w v (some (x, f))) : Calls Tryz.prog 83 #[v] w (TelB (isT B.nck B.long (x, f) 2) w) := by
  have HE : Hid (isT B.nck B.long (x, f) 2 = (numB x 0 0 && seqK (IF f) [2, 2])) := Lib.hid (by show isX _ _ x (IF f) 2 = _; rw [isX_one hk (by rfl), hd_num, seq_K _ _ (by rfl)]; rfl)
  rw [HE.out]
  obtain ⟨q, p, A, c', rfl, hq, c0, c1, c2, c3, c4, hcc, hkid⟩ := InT.open hv
  rw [hk] at c0
  have cH := plain_any x f w _ hv
  have cT : ∀ w1, Up w w1 → Calls Tryz.prog 131 #[.pointer (some ⟨q, p, none⟩), .slice (some ⟨w1.heap.size, 0, none⟩) 2 2] (w1.alloc (.cells #[.func (.func 83) #[] #[], .func (.func 83) #[] #[]] 159)) (TelB (seqK (IF f) [2, 2]) (w1.alloc (.cells #[.func (.func 83) #[] #[], .func (.func 83) #[] #[]] 159))) := fun w1 u => kids_seq [2, 2] x f _ _ _ _ (Nx.up hx (u.alloc _)) (hv.up (u.alloc _)) hn.hf (by decide) (fns_lit (fnsC [2, 2]) (heap_alloc_new w1 _)) (good_kids hn (by decide))
  obtain ⟨hb, hhb⟩ : ∃ hb, numB x 0 0 = hb := ⟨_, rfl⟩
  obtain ⟨tb, htb⟩ : ∃ tb, seqK (IF f) [2, 2] = tb := ⟨_, rfl⟩
  rw [hhb, htb]
  rw [hhb] at cH
  rw [htb] at cT
  clear HE hhb htb hv hk hn hx hq c1 c2 c3 c4 hcc hkid
  cases hb
  · go_enter Tryz.func83, Tryz.ntmps83
    go_wp2_with fail
    refine cH.mono ?_
    rintro e w1 ⟨rfl, u1⟩
    go_wp2_with fail
    go_ret
    exact tel_ret rfl u1
  · go_enter Tryz.func83, Tryz.ntmps83
    go_wp2_with fail
    refine cH.mono ?_
    rintro e w1 ⟨rfl, u1⟩
    go_wp2_with fail
    refine (cT w1 u1).mono ?_
    rintro e w2 ⟨rfl, u2⟩
    go_wp2_with fail
    go_ret
    exact tel_ret (by cases tb <;> rfl) (Up.trans (u1.alloc _) u2)
set_option maxHeartbeats 3200000 in
set_option maxRecDepth 100000 in
theorem isExpr_26 (x : Nod) (f : Fr) (w : World) (v : Value) (hk : x.k = 26) (hn : Nd1 x f) (hx : B.Nx w) (hv : HasT w v (some (x, f))) : Calls Tryz.prog 83 #[v] w (TelB (isT B.nck B.long (x, f) 2) w) := by
  have HE : Hid (isT B.nck B.long (x, f) 2 = (numB x 0 0 && seqK (IF f) [2, 2])) := Lib.hid (by show isX _ _ x (IF f) 2 = _; rw [isX_one hk (by rfl), hd_num, seq_K _ _ (by rfl)]; rfl)
  rw [HE.out]
  obtain ⟨q, p, A, c', rfl, hq, c0, c1, c2, c3, c4, hcc, hkid⟩ := InT.open hv
  rw [hk] at c0
  have cH := plain_any x f w _ hv
  have cT : ∀ w1, Up w w1 → Calls Tryz.prog 131 #[.pointer (some ⟨q, p, none⟩), .slice (some ⟨w1.heap.size, 0, none⟩) 2 2] (w1.alloc (.cells #[.func (.func 83) #[] #[], .func (.func 83) #[] #[]] 159)) (TelB (seqK (IF f) [2, 2]) (w1.alloc (.cells #[.func (.func 83) #[] #[], .func (.func 83) #[] #[]] 159))) := fun w1 u => kids_seq [2, 2] x f _ _ _ _ (Nx.up hx (u.alloc _)) (hv.up (u.alloc _)) hn.hf (by decide) (fns_lit (fnsC [2, 2]) (heap_alloc_new w1 _)) (good_kids hn (by decide))
  obtain ⟨hb, hhb⟩ : ∃ hb, numB x 0 0 = hb := ⟨_, rfl⟩
  obtain ⟨tb, htb⟩ : ∃ tb, seqK (IF f) [2, 2] = tb := ⟨_, rfl⟩
  rw [hhb, htb]
  rw [hhb] at cH
  rw [htb] at cT
  clear HE hhb htb hv hk hn hx hq c1 c2 c3 c4 hcc hkid
  cases hb
  · go_enter Tryz.func83, Tryz.ntmps83
    go_wp2_with fail
    refine cH.mono ?_
    rintro e w1 ⟨rfl, u1⟩
    go_wp2_with fail
    go_ret
    exact tel_ret rfl u1
  · go_enter Tryz.func83, Tryz.ntmps83
    go_wp2_with fail
    refine cH.mono ?_
    rintro e w1 ⟨rfl, u1⟩
    go_wp2_with fail
    refine (cT w1 u1).mono ?_
    rintro e w2 ⟨rfl, u2⟩
    go_wp2_with fail
    go_ret
    exact tel_ret (by cases tb <;> rfl) (Up.trans (u1.alloc _) u2)
set_option maxHeartbeats 3200000 in
set_option maxRecDepth 100000 in
theorem isExpr_27 (x : Nod) (f : Fr) (w : World) (v : Value) (hk : x.k = 27) (hn : Nd1 x f) (hx : B.Nx w) (hv : HasT w v (some (x, f))) : Calls Tryz.prog 83 #[v] w (TelB (isT B.nck B.long (x, f) 2) w) := by
  have HE : Hid (isT B.nck B.long (x, f) 2 = (numB x 0 0 && seqK (IF f) [2])) := Lib.hid (by show isX _ _ x (IF f) 2 = _; rw [isX_one hk (by rfl), hd_num, seq_K _ _ (by rfl)]; rfl)
  rw [HE.out]
  obtain ⟨q, p, A, c', rfl, hq, c0, c1, c2, c3, c4, hcc, hkid⟩ := InT.open hv
  rw [hk] at c0
  have cH := plain_any x f w _ hv
  have cT : ∀ w1, Up w w1 → Calls Tryz.prog 131 #[.pointer (some ⟨q, p, none⟩), .slice (some ⟨w1.heap.size, 0, none⟩) 1 1] (w1.alloc (.cells #[.func (.func 83) #[] #[]] 159)) (TelB (seqK (IF f) [2]) (w1.alloc (.cells #[.func (.func 83) #[] #[]] 159))) := fun w1 u => kids_seq [2] x f _ _ _ _ (Nx.up hx (u.alloc _)) (hv.up (u.alloc _)) hn.hf (by decide) (fns_lit (fnsC [2]) (heap_alloc_new w1 _)) (good_kids hn (by decide))
  obtain ⟨hb, hhb⟩ : ∃ hb, numB x 0 0 = hb := ⟨_, rfl⟩
  obtain ⟨tb, htb⟩ : ∃ tb, seqK (IF f) [2] = tb := ⟨_, rfl⟩
  rw [hhb, htb]
  rw [hhb] at cH
  rw [htb] at cT
  clear HE hhb htb hv hk hn hx hq c1 c2 c3 c4 hcc hkid
  cases hb
  · go_enter Tryz.func83, Tryz.ntmps83
    go_wp2_with fail
    refine cH.mono ?_
    rintro e w1 ⟨rfl, u1⟩
    go_wp2_with fail
    go_ret
    exact tel_ret rfl u1
  · go_enter Tryz.func83, Tryz.ntmps83
    go_wp2_with fail
    refine cH.mono ?_
    rintro e w1 ⟨rfl, u1⟩
    go_wp2_with fail
    refine (cT w1 u1).mono ?_
    rintro e w2 ⟨rfl, u2⟩
    go_wp2_with fail
    go_ret
    exact tel_ret (by cases tb <;> rfl) (Up.trans (u1.alloc _) u2)
set_option maxHeartbeats 3200000 in
set_option maxRecDepth 100000 in
theorem isExpr_28 (x : Nod) (f : Fr) (w : World) (v : Value) (hk : x.k = 28) (hn : Nd1 x f) (hx : B.Nx w) (hv : HasT w v (some (x, f))) : Calls Tryz.prog 83 #[v] w (TelB (isT B.nck B.long (x, f) 2) w) := by
  have HE : Hid (isT B.nck B.long (x, f) 2 = (numB x 0 0 && seqK (IF f) [2])) := Lib.hid (by show isX _ _ x (IF f) 2 = _; rw [isX_one hk (by rfl), hd_num, seq_K _ _ (by rfl)]; rfl)
  rw [HE.out]
  obtain ⟨q, p, A, c', rfl, hq, c0, c1, c2, c3, c4, hcc, hkid⟩ := InT.open hv
  rw [hk] at c0
  have cH := plain_any x f w _ hv
  have cT : ∀ w1, Up w w1 → Calls Tryz.prog 131 #[.pointer (some ⟨q, p, none⟩), .slice (some ⟨w1.heap.size, 0, none⟩) 1 1] (w1.alloc (.cells #[.func (.func 83) #[] #[]] 159)) (TelB (seqK (IF f) [2]) (w1.alloc (.cells #[.func (.func 83) #[] #[]] 159))) := fun w1 u => kids_seq [2] x f _ _ _ _ (Nx.up hx (u.alloc _)) (hv.up (u.alloc _)) hn.hf (by decide) (fns_lit (fnsC [2]) (heap_alloc_new w1 _)) (good_kids hn (by decide))
  obtain ⟨hb, hhb⟩ : ∃ hb, numB x 0 0 = hb := ⟨_, rfl⟩
  obtain ⟨tb, htb⟩ : ∃ tb, seqK (IF f) [2] = tb := ⟨_, rfl⟩
  rw [hhb, htb]
  rw [hhb] at cH
  rw [htb] at cT
  clear HE hhb htb hv hk hn hx hq c1 c2 c3 c4 hcc hkid
  cases hb
  · go_enter Tryz.func83, Tryz.ntmps83
    go_wp2_with fail
    refine cH.mono ?_
    rintro e w1 ⟨rfl, u1⟩
    go_wp2_with fail
    go_ret
    exact tel_ret rfl u1
  · go_enter Tryz.func83, Tryz.ntmps83
    go_wp2_with fail
    refine cH.mono ?_
    rintro e w1 ⟨rfl, u1⟩
    go_wp2_with fail
    refine (cT w1 u1).mono ?_
    rintro e w2 ⟨rfl, u2⟩
    go_wp2_with fail
    go_ret
    exact tel_ret (by cases tb <;> rfl) (Up.trans (u1.alloc _) u2)
set_option maxHeartbeats 3200000 in
set_option maxRecDepth 100000 in
theorem isExpr_29 (x : Nod) (f : Fr) (w : World) (v : Value) (hk : x.k = 29) (hn : Nd1 x f) (hx : B.Nx w) (hv : HasT w v (some (x, f))) : Calls Tryz.prog 83 #[v] w (TelB (isT B.nck B.long (x, f) 2) w) := by
  have HE : Hid (isT B.nck B.long (x, f) 2 = (texB x B.nck isEmp && seqK (IF f) [2, 2])) := Lib.hid (by show isX _ _ x (IF f) 2 = _; rw [isX_one hk (by rfl), hd_tex (A := B.nck) (M := isEmp) (fun _ => rfl) (fun _ => rfl), seq_K _ _ (by rfl)]; rfl)
  rw [HE.out]
  obtain ⟨q, p, A, c', rfl, hq, c0, c1, c2, c3, c4, hcc, hkid⟩ := InT.open hv
  rw [hk] at c0
  have cH := named_any x f w _ hv hn.hs.1
  have cT : ∀ w1, Up w w1 → Calls Tryz.prog 131 #[.pointer (some ⟨q, p, none⟩), .slice (some ⟨w1.heap.size, 0, none⟩) 2 2] (w1.alloc (.cells #[.func (.func 83) #[] #[], .func (.func 83) #[] #[]] 159)) (TelB (seqK (IF f) [2, 2]) (w1.alloc (.cells #[.func (.func 83) #[] #[], .func (.func 83) #[] #[]] 159))) := fun w1 u => kids_seq [2, 2] x f _ _ _ _ (Nx.up hx (u.alloc _)) (hv.up (u.alloc _)) hn.hf (by decide) (fns_lit (fnsC [2, 2]) (heap_alloc_new w1 _)) (good_kids hn (by decide))
  obtain ⟨hb, hhb⟩ : ∃ hb, texB x B.nck isEmp = hb := ⟨_, rfl⟩
  obtain ⟨tb, htb⟩ : ∃ tb, seqK (IF f) [2, 2] = tb := ⟨_, rfl⟩
  rw [hhb, htb]
  rw [hhb] at cH
  rw [htb] at cT
  clear HE hhb htb hv hk hn hx hq c1 c2 c3 c4 hcc hkid
  cases hb
  · go_enter Tryz.func83, Tryz.ntmps83
    go_wp2_with fail
    refine cH.mono ?_
    rintro e w1 ⟨rfl, u1⟩
    go_wp2_with fail
    go_ret
    exact tel_ret rfl u1
  · go_enter Tryz.func83, Tryz.ntmps83
    go_wp2_with fail
    refine cH.mono ?_
    rintro e w1 ⟨rfl, u1⟩
    go_wp2_with fail
    refine (cT w1 u1).mono ?_
    rintro e w2 ⟨rfl, u2⟩
    go_wp2_with fail
    go_ret
    exact tel_ret (by cases tb <;> rfl) (Up.trans (u1.alloc _) u2)
set_option maxHeartbeats 3200000 in
set_option maxRecDepth 100000 in
theorem isExpr_30 (x : Nod) (f : Fr) (w : World) (v : Value) (hk : x.k = 30) (hn : Nd1 x f) (hx : B.Nx w) (hv : HasT w v (some (x, f))) : Calls Tryz.prog 83 #[v] w (TelB (isT B.nck B.long (x, f) 2) w) := by
  have HE : Hid (isT B.nck B.long (x, f) 2 = (numB x 0 0 && seqK (IF f) [2, 2, 2])) := Lib.hid (by show isX _ _ x (IF f) 2 = _; rw [isX_one hk (by rfl), hd_num, seq_K _ _ (by rfl)]; rfl)
  rw [HE.out]
  obtain ⟨q, p, A, c', rfl, hq, c0, c1, c2, c3, c4, hcc, hkid⟩ := InT.open hv
  rw [hk] at c0
  have cH := plain_any x f w _ hv
  have cT : ∀ w1, Up w w1 → Calls Tryz.prog 131 #[.pointer (some ⟨q, p, none⟩), .slice (some ⟨w1.heap.size, 0, none⟩) 3 3] (w1.alloc (.cells #[.func (.func 83) #[] #[], .func (.func 83) #[] #[], .func (.func 83) #[] #[]] 159)) (TelB (seqK (IF f) [2, 2, 2]) (w1.alloc (.cells #[.func (.func 83) #[] #[], .func (.func 83) #[] #[], .func (.func 83) #[] #[]] 159))) := fun w1 u => kids_seq [2, 2, 2] x f _ _ _ _ (Nx.up hx (u.alloc _)) (hv.up (u.alloc _)) hn.hf (by decide) (fns_lit (fnsC [2, 2, 2]) (heap_alloc_new w1 _)) (good_kids hn (by decide))
  obtain ⟨hb, hhb⟩ : ∃ hb, numB x 0 0 = hb := ⟨_, rfl⟩
  obtain ⟨tb, htb⟩ : ∃ tb, seqK (IF f) [2, 2, 2] = tb := ⟨_, rfl⟩
  rw [hhb, htb]
  rw [hhb] at cH
  rw [htb] at cT
  clear HE hhb htb hv hk hn hx hq c1 c2 c3 c4 hcc hkid
  cases hb
  · go_enter Tryz.func83, Tryz.ntmps83
    go_wp2_with fail
    refine cH.mono ?_
    rintro e w1 ⟨rfl, u1⟩
    go_wp2_with fail
    go_ret
    exact tel_ret rfl u1
  · go_enter Tryz.func83, Tryz.ntmps83
    go_wp2_with fail
    refine cH.mono ?_
    rintro e w1 ⟨rfl, u1⟩
    go_wp2_with fail
    refine (cT w1 u1).mono ?_
    rintro e w2 ⟨rfl, u2⟩
    go_wp2_with fail
    go_ret
    exact tel_ret (by cases tb <;> rfl) (Up.trans (u1.alloc _) u2)
set_option maxHeartbeats 3200000 in
set_option maxRecDepth 100000 in
theorem isExpr_31 (x : Nod) (f : Fr) (w : World) (v : Value) (hk : x.k = 31) (hn : Nd1 x f) (hx : B.Nx w) (hv : HasT w v (some (x, f))) : Calls Tryz.prog 83 #[v] w (TelB (isT B.nck B.long (x, f) 2) w) := by
  have HE : Hid (isT B.nck B.long (x, f) 2 = (numB x 1 5 && seqK (IF f) [2, 2])) := Lib.hid (by show isX _ _ x (IF f) 2 = _; rw [isX_one hk (by rfl), hd_num, seq_K _ _ (by rfl)]; rfl)
  rw [HE.out]
  obtain ⟨q, p, A, c', rfl, hq, c0, c1, c2, c3, c4, hcc, hkid⟩ := InT.open hv
  rw [hk] at c0
  have cH := number_any x f 1 5 w _ hv
  have cT : ∀ w1, Up w w1 → Calls Tryz.prog 131 #[.pointer (some ⟨q, p, none⟩), .slice (some ⟨w1.heap.size, 0, none⟩) 2 2] (w1.alloc (.cells #[.func (.func 83) #[] #[], .func (.func 83) #[] #[]] 159)) (TelB (seqK (IF f) [2, 2]) (w1.alloc (.cells #[.func (.func 83) #[] #[], .func (.func 83) #[] #[]] 159))) := fun w1 u => kids_seq [2, 2] x f _ _ _ _ (Nx.up hx (u.alloc _)) (hv.up (u.alloc _)) hn.hf (by decide) (fns_lit (fnsC [2, 2]) (heap_alloc_new w1 _)) (good_kids hn (by decide))
  obtain ⟨hb, hhb⟩ : ∃ hb, numB x 1 5 = hb := ⟨_, rfl⟩
  obtain ⟨tb, htb⟩ : ∃ tb, seqK (IF f) [2, 2] = tb := ⟨_, rfl⟩
  rw [hhb, htb]
  rw [hhb] at cH
  rw [htb] at cT
  clear HE hhb htb hv hk hn hx hq c1 c2 c3 c4 hcc hkid
  cases hb
  · go_enter Tryz.func83, Tryz.ntmps83
    go_wp2_with fail
    refine cH.mono ?_
    rintro e w1 ⟨rfl, u1⟩
    go_wp2_with fail
    go_ret
    exact tel_ret rfl u1
  · go_enter Tryz.func83, Tryz.ntmps83
    go_wp2_with fail
    refine cH.mono ?_
    rintro e w1 ⟨rfl, u1⟩
    go_wp2_with fail
    refine (cT w1 u1).mono ?_
    rintro e w2 ⟨rfl, u2⟩
    go_wp2_with fail
    go_ret
    exact tel_ret (by cases tb <;> rfl) (Up.trans (u1.alloc _) u2)
set_option maxHeartbeats 3200000 in
set_option maxRecDepth 100000 in
theorem isExpr_32 (x : Nod) (f : Fr) (w : World) (v : Value) (hk : x.k = 32) (hn : Nd1 x f) (hx : B.Nx w) (hv : HasT w v (some (x, f))) : Calls Tryz.prog 83 #[v] w (TelB (isT B.nck B.long (x, f) 2) w) := by
  have HE : Hid (isT B.nck B.long (x, f) 2 = (numB x 0 0 && rowB [2] 1 (fun i => i.is 9) (IF f))) := Lib.hid (by show isX _ _ x (IF f) 2 = _; rw [isX_one hk (by rfl), hd_num, seq_arms])
  rw [HE.out]
  obtain ⟨q, p, A, c', rfl, hq, c0, c1, c2, c3, c4, hcc, hkid⟩ := InT.open hv
  rw [hk] at c0
  have cH := plain_any x f w _ hv
  have cT : ∀ w1, Up w w1 → Calls Tryz.prog 160 #[.pointer (some ⟨q, p, none⟩), .int .i64 1, .func (.func 161) #[] #[], .slice (some ⟨w1.heap.size, 0, none⟩) 1 1] (w1.alloc (.cells #[.func (.func 83) #[] #[]] 159)) (TelB (rowB [2] 1 (fun i => i.is 9) (IF f)) (w1.alloc (.cells #[.func (.func 83) #[] #[]] 159))) := fun w1 u => row_seq [2] 1 161 (fun i => i.is 9) x f _ _ _ _ (fun _ _ => by kernel_rfl) (by omega) (Nx.up hx (u.alloc _)) (hv.up (u.alloc _)) hn.hf (by decide) (rds_lit [2] (heap_alloc_new w1 _)) (good_kids hn (by decide)) (fun i t h => (hn.ih i t h).a9)
  obtain ⟨hb, hhb⟩ : ∃ hb, numB x 0 0 = hb := ⟨_, rfl⟩
  obtain ⟨tb, htb⟩ : ∃ tb, rowB [2] 1 (fun i => i.is 9) (IF f) = tb := ⟨_, rfl⟩
  rw [hhb, htb]
  rw [hhb] at cH
  rw [htb] at cT
  clear HE hhb htb hv hk hn hx hq c1 c2 c3 c4 hcc hkid
  cases hb
  · go_enter Tryz.func83, Tryz.ntmps83
    go_wp2_with fail
    refine cH.mono ?_
    rintro e w1 ⟨rfl, u1⟩
    go_wp2_with fail
    go_ret
    exact tel_ret rfl u1
  · go_enter Tryz.func83, Tryz.ntmps83
    go_wp2_with fail
    refine cH.mono ?_
    rintro e w1 ⟨rfl, u1⟩
    go_wp2_with fail
    refine (cT w1 u1).mono ?_
    rintro e w2 ⟨rfl, u2⟩
    go_wp2_with fail
    go_ret
    exact tel_ret (by cases tb <;> rfl) (Up.trans (u1.alloc _) u2)
set_option maxHeartbeats 3200000 in
set_option maxRecDepth 100000 in
theorem isExpr_33 (x : Nod) (f : Fr) (w : World) (v : Value) (hk : x.k = 33) (hn : Nd1 x f) (hx : B.Nx w) (hv : HasT w v (some (x, f))) : Calls Tryz.prog 83 #[v] w (TelB (isT B.nck B.long (x, f) 2) w) := by
  have HE : Hid (isT B.nck B.long (x, f) 2 = (numB x 0 0 && rowB [2, 1] 1 (fun i => i.is 9) (IF f))) := Lib.hid (by show isX _ _ x (IF f) 2 = _; rw [isX_one hk (by rfl), hd_num, seq_arms2])
  rw [HE.out]
  obtain ⟨q, p, A, c', rfl, hq, c0, c1, c2, c3, c4, hcc, hkid⟩ := InT.open hv
  rw [hk] at c0
  have cH := plain_any x f w _ hv
  have cT : ∀ w1, Up w w1 → Calls Tryz.prog 160 #[.pointer (some ⟨q, p, none⟩), .int .i64 1, .func (.func 161) #[] #[], .slice (some ⟨w1.heap.size, 0, none⟩) 2 2] (w1.alloc (.cells #[.func (.func 83) #[] #[], .func (.func 76) #[] #[]] 159)) (TelB (rowB [2, 1] 1 (fun i => i.is 9) (IF f)) (w1.alloc (.cells #[.func (.func 83) #[] #[], .func (.func 76) #[] #[]] 159))) := fun w1 u => row_seq [2, 1] 1 161 (fun i => i.is 9) x f _ _ _ _ (fun _ _ => by kernel_rfl) (by omega) (Nx.up hx (u.alloc _)) (hv.up (u.alloc _)) hn.hf (by decide) (rds_lit [2, 1] (heap_alloc_new w1 _)) (good_kids hn (by decide)) (fun i t h => (hn.ih i t h).a9)
  obtain ⟨hb, hhb⟩ : ∃ hb, numB x 0 0 = hb := ⟨_, rfl⟩
  obtain ⟨tb, htb⟩ : ∃ tb, rowB [2, 1] 1 (fun i => i.is 9) (IF f) = tb := ⟨_, rfl⟩
  rw [hhb, htb]
  rw [hhb] at cH
  rw [htb] at cT
  clear HE hhb htb hv hk hn hx hq c1 c2 c3 c4 hcc hkid
  cases hb
  · go_enter Tryz.func83, Tryz.ntmps83
    go_wp2_with fail
    refine cH.mono ?_
    rintro e w1 ⟨rfl, u1⟩
    go_wp2_with fail
    go_ret
    exact tel_ret rfl u1
  · go_enter Tryz.func83, Tryz.ntmps83
    go_wp2_with fail
    refine cH.mono ?_
    rintro e w1 ⟨rfl, u1⟩
    go_wp2_with fail
    refine (cT w1 u1).mono ?_
    rintro e w2 ⟨rfl, u2⟩
    go_wp2_with fail
    go_ret
    exact tel_ret (by cases tb <;> rfl) (Up.trans (u1.alloc _) u2)
theorem rows_isExpr : ∀ r ∈ RWS, r.cat = 2 → r.kind ∈ [(20 : Int), (21 : Int), (22 : Int), (23 : Int), (24 : Int), (25 : Int), (26 : Int), (27 : Int), (28 : Int), (29 : Int), (30 : Int), (31 : Int), (32 : Int), (33 : Int)] := by decide
set_option maxHeartbeats 3200000 in
set_option maxRecDepth 100000 in
theorem isExpr_none (x : Nod) (f : Fr) (w : World) (v : Value) (n20 : ¬ x.k = 20) (n21 : ¬ x.k = 21) (n22 : ¬ x.k = 22) (n23 : ¬ x.k = 23) (n24 : ¬ x.k = 24) (n25 : ¬ x.k = 25) (n26 : ¬ x.k = 26) (n27 : ¬ x.k = 27) (n28 : ¬ x.k = 28) (n29 : ¬ x.k = 29) (n30 : ¬ x.k = 30) (n31 : ¬ x.k = 31) (n32 : ¬ x.k = 32) (n33 : ¬ x.k = 33) (hv : HasT w v (some (x, f))) : Calls Tryz.prog 83 #[v] w (TelB (isT B.nck B.long (x, f) 2) w) := by
  have HE : Hid (isT B.nck B.long (x, f) 2 = false) := Lib.hid (isX_none fun r hr hc e => by have := rows_isExpr r hr hc; rw [e] at this; simp only [List.mem_cons, List.not_mem_nil, or_false] at this; omega)
  rw [HE.out]
  obtain ⟨q, p, A, c', rfl, hq, c0, c1, c2, c3, c4, hcc, hkid⟩ := InT.open hv
  clear hv HE hq c1 c2 c3 c4 hcc hkid
  go_enter Tryz.func83, Tryz.ntmps83
  go_wp2_with fail
  go_ret
  exact tel_ret rfl (Up.refl _)
theorem isExpr_any (x : Nod) (f : Fr) (hn : Nd1 x f) : TelAt 83 (isT B.nck B.long (x, f) 2) (x, f) := fun w v hx hv => by
  by_cases n20 : x.k = 20
  · exact isExpr_20 x f w v n20 hn hx hv
  by_cases n21 : x.k = 21
  · exact isExpr_21 x f w v n21 hn hx hv
  by_cases n22 : x.k = 22
  · exact isExpr_22 x f w v n22 hn hx hv
  by_cases n23 : x.k = 23
  · exact isExpr_23 x f w v n23 hn hx hv
  by_cases n24 : x.k = 24
  · exact isExpr_24 x f w v n24 hn hx hv
  by_cases n25 : x.k = 25
  · exact isExpr_25 x f w v n25 hn hx hv
  by_cases n26 : x.k = 26
  · exact isExpr_26 x f w v n26 hn hx hv
  by_cases n27 : x.k = 27
  · exact isExpr_27 x f w v n27 hn hx hv
  by_cases n28 : x.k = 28
  · exact isExpr_28 x f w v n28 hn hx hv
  by_cases n29 : x.k = 29
  · exact isExpr_29 x f w v n29 hn hx hv
  by_cases n30 : x.k = 30
  · exact isExpr_30 x f w v n30 hn hx hv
  by_cases n31 : x.k = 31
  · exact isExpr_31 x f w v n31 hn hx hv
  by_cases n32 : x.k = 32
  · exact isExpr_32 x f w v n32 hn hx hv
  by_cases n33 : x.k = 33
  · exact isExpr_33 x f w v n33 hn hx hv
  exact isExpr_none x f w v n20 n21 n22 n23 n24 n25 n26 n27 n28 n29 n30 n31 n32 n33 hv
end Go.Proofs.YthonaeigacfmbaaGreatDoor
