/-
  Layer 6, the program's nested: of a row of parts, each ahead of the tree of those behind it.
-/
import Derived.Test.YthonaeigacfmbaaGreatDoorGq21
namespace Go.Proofs.YthonaeigacfmbaaGreatDoor
open Go.RowKit Go.Shelf

attribute [local go_sem] Oper.semAt_some

def isC (w : World) (q : Nat) : Prop := ∃ o : Obj, w.heap[q]? = some o ∧ o.isCells = true
theorem cell_isC {w : World} {a : Addr} {v : Value} (h : w.cell? a = some v) : isC w a.block := by
  cases hb : w.heap[a.block]? with
  | none => simp [World.cell?, hb] at h
  | some o =>
    refine ⟨o, hb, ?_⟩
    cases o with
    | cells c t f => rfl
    | _ => simp [World.cell?, hb] at h
theorem InF.cells {w : World} {S : Nat → Prop} : ∀ {f : Fr} {b o : Nat}, InF w S f b o → InF w (fun q => S q ∧ isC w q) f b o
  | .nil, _, _, _ => trivial
  | .cons x ks rs, b, o, ⟨⟨v, hv, q, p, A, c, e, hq, ⟨xs, te, hx⟩, h0, h1, h2, h3, h4, hc, hkids⟩, hr⟩ =>
    ⟨⟨v, hv, q, p, A, c, e, ⟨hq, _, hx, rfl⟩, ⟨xs, te, hx⟩, h0, h1, h2, h3, h4, hc, fun hn => by
      obtain ⟨kb, ko, hA, h5, h7⟩ := hkids hn
      refine ⟨kb, ko, hA, ⟨h5, ?_⟩, InF.cells h7⟩
      cases ks with
      | nil => exact absurd hn (Nat.lt_irrefl _)
      | cons y k2 r2 =>
        obtain ⟨⟨u, hu, _⟩, _⟩ := h7
        exact cell_isC (a := ⟨kb, ko, none⟩) hu⟩, InF.cells hr⟩
theorem InT.cells {w : World} {S : Nat → Prop} {v : Value} {t : Tr} (h : InT w S v t) : InT w (fun q => S q ∧ isC w q) v t := by
  obtain ⟨q, p, A, c, e, hq, ⟨xs, te, hx⟩, h0, h1, h2, h3, h4, hc, hkids⟩ := h
  refine ⟨q, p, A, c, e, ⟨hq, _, hx, rfl⟩, ⟨xs, te, hx⟩, h0, h1, h2, h3, h4, hc, fun hn => ?_⟩
  obtain ⟨kb, ko, hA, h5, h7⟩ := hkids hn
  refine ⟨kb, ko, hA, ⟨h5, ?_⟩, InF.cells h7⟩
  obtain ⟨x, k, r, hf⟩ := Fr.cut hn
  rw [hf] at h7
  obtain ⟨⟨u, hu, _⟩, _⟩ := h7
  exact cell_isC (a := ⟨kb, ko, none⟩) hu
theorem Ptrs.list : ∀ {ps : List Value}, Ptrs ps → ∃ qs : List (Option Addr), ps = qs.map Value.pointer
  | [], _ => ⟨[], rfl⟩
  | p :: ps, h => by
    obtain ⟨A, rfl⟩ := h p (List.mem_cons_self ..)
    obtain ⟨qs, rfl⟩ := Ptrs.list (ps := ps) fun u hu => h u (List.mem_cons_of_mem _ hu)
    exact ⟨A :: qs, rfl⟩
def Sc (w : World) (Bn : Nat) (W : World) (q : Nat) : Prop := NewS w W q ∧ q ≠ Bn ∧ isC W q
theorem isC.keep {W W' : World} {q : Nat} (h : isC W q) (hb : W'.heap[q]? = W.heap[q]?) : isC W' q := by
  obtain ⟨o, ho, hc⟩ := h
  exact ⟨o, hb.trans ho, hc⟩
theorem sc_keep {w W0 W : World} {Bn : Nat} {v : Value} {t : Tr} (g : Gs (On Bn) W0 W) (h : InT W0 (Sc w Bn W0) v t) : InT W (Sc w Bn W) v t :=
  InT.keep h (fun q hq => ⟨⟨hq.1.1, Nat.lt_of_lt_of_le hq.1.2 g.size⟩, hq.2.1, hq.2.2.keep (g.block q hq.1.2 hq.2.1)⟩) fun q hq => g.block q hq.1.2 hq.2.1
def dropF : Fr → Nat → Fr
  | f, 0 => f
  | .nil, _ + 1 => .nil
  | .cons _ _ r, n + 1 => dropF r n
theorem dropF_len : ∀ (f : Fr) (n : Nat), (dropF f n).len = f.len - n
  | .nil, 0 => rfl
  | .cons _ _ _, 0 => rfl
  | .nil, n + 1 => by show 0 = 0 - (n + 1); omega
  | .cons _ _ r, n + 1 => by show (dropF r n).len = r.len + 1 - (n + 1); rw [dropF_len r n]; omega
theorem dropF_get : ∀ {f : Fr} {i : Nat} {t : Tr}, f.get i = some t → dropF f i = (fr1 t).app (dropF f (i + 1))
  | .nil, _, _, h => by cases h
  | .cons x k r, 0, t, h => by
    have h : some (x, k) = some t := h
    have h := Option.some.inj h
    subst h
    show Fr.cons x k r = Fr.cons x k (Fr.app .nil (dropF r 0))
    cases r <;> rfl
  | .cons x k r, i + 1, t, h => dropF_get (f := r) (i := i) h
theorem foldK_step {k : Int} {f : Fr} {i : Nat} {t : Tr} (h : f.get i = some t) (hl : i + 1 < f.len) : foldK k (dropF f i) = nd k nob (fr2 t (foldK k (dropF f (i + 1)))) := by
  rw [dropF_get h, foldK_two k t (by rw [dropF_len]; omega)]
theorem foldK_last {k : Int} {f : Fr} {i : Nat} {t : Tr} (h : f.get i = some t) (hl : i + 1 = f.len) : foldK k (dropF f i) = t := by
  have h0 : (dropF f (i + 1)).len = 0 := by rw [dropF_len]; omega
  have e : dropF f (i + 1) = .nil := by
    cases hd : dropF f (i + 1) with
    | nil => rfl
    | cons _ _ _ => rw [hd] at h0; cases h0
  rw [dropF_get h, e, Fr.app_nil]
  rfl
theorem PtF.get {w : World} {S : Nat → Prop} : ∀ {vs : List Value} {f : Fr} {i : Nat} {v : Value}, PtF w S vs f → vs[i]? = some v → ∃ t, f.get i = some t ∧ InT w S v t
  | [], _, _, _, _, h => by cases h
  | _ :: _, .nil, _, _, h, _ => h.elim
  | v :: vs, .cons x ks rs, 0, u, h, hv => ⟨(x, ks), rfl, by rw [← Option.some.inj hv]; exact h.1⟩
  | _ :: vs, .cons _ _ rs, i + 1, u, h, hv => PtF.get (vs := vs) (f := rs) (i := i) h.2 hv
def NI (w W0 : World) (Bn : Nat) (kind : Int) (R : Rs Fr) (qs : List (Option Addr)) (pre : List (Nat × Option Addr)) (W : World) : Prop :=
  ∃ A, Boxed W Bn 24 (.pointer A) ∧ Gs (On Bn) W0 W ∧ (pre = bwd qs pre.length → pre.length ≤ qs.length → ∀ f j, R = .inl (f, j) → InT W (Sc w Bn W) (.pointer A) (foldK kind (dropF f (qs.length - pre.length))))
theorem ni_own {w W0 : World} {Bn : Nat} {kind : Int} {R : Rs Fr} {qs : List (Option Addr)} (hB : Bn < W0.heap.size) : OwnFrom W0.heap.size (NI w W0 Bn kind R qs) := fun s X Y row ⟨A, hb, hg, ht⟩ hgr hr =>
  ⟨A, hb.kept hgr (fun e => by have := (hr Bn e.symm).1; omega), hg.grown hgr (fun g e => .inr (hr g e).1), fun h1 h2 f j hf => by
    have hk : ∀ q, Sc w Bn X q → Y.heap[q]? = X.heap[q]? := fun q hq => hgr.block q hq.1.2 fun e => by
      obtain ⟨-, o, ho, hc⟩ := hr q e.symm
      obtain ⟨o', ho', hc'⟩ := hq.2.2
      rw [ho] at ho'
      have e := Option.some.inj ho'
      rw [e, hc'] at hc
      cases hc
    exact InT.keep (ht h1 h2 f j hf) (fun q hq => ⟨⟨hq.1.1, Nat.lt_of_lt_of_le hq.1.2 hgr.size⟩, hq.2.1, hq.2.2.keep (hk q hq)⟩) hk⟩
theorem two_in {w : World} {S : Nat → Prop} {va vb : Value} {a b : Tr} {k : Int} (ha : InT w S va a) (hb : InT w S vb b) (hS : ∀ q, S q → q < w.heap.size) :
    InT ((w.alloc (.cells #[va, vb] 24)).alloc (.cells #[.int .i64 k, .int .i64 0, .string nob, .string ⟨#[]⟩, .slice (some ⟨w.heap.size, 0, none⟩) 2 2] 66)) (fun q => S q ∨ q = w.heap.size ∨ q = w.heap.size + 1) (.pointer (some ⟨w.heap.size + 1, 0, none⟩)) (nd k nob (fr2 a b)) := by
  have e1 : (w.alloc (.cells #[va, vb] 24)).heap.size = w.heap.size + 1 := by simp
  obtain ⟨W1, hW1⟩ : ∃ W1, w.alloc (.cells #[va, vb] 24) = W1 := ⟨_, rfl⟩
  have s1 : W1.heap[w.heap.size]? = some (.cells #[va, vb] 24 (0, 0)) := by rw [← hW1]; exact heap_alloc_new w _
  have u1 : Up w W1 := by rw [← hW1]; exact (Up.refl w).alloc _
  rw [hW1] at e1 ⊢
  rw [← e1]
  obtain ⟨W2, hW2⟩ : ∃ W2, W1.alloc (.cells #[.int .i64 k, .int .i64 0, .string nob, .string ⟨#[]⟩, .slice (some ⟨w.heap.size, 0, none⟩) 2 2] 66) = W2 := ⟨_, rfl⟩
  have s2 : W2.heap[W1.heap.size]? = some (.cells #[.int .i64 k, .int .i64 0, .string nob, .string ⟨#[]⟩, .slice (some ⟨w.heap.size, 0, none⟩) 2 2] 66 (0, 0)) := by rw [← hW2]; exact heap_alloc_new W1 _
  have u2 : Up W1 W2 := by rw [← hW2]; exact (Up.refl W1).alloc _
  have s3 : W2.heap[w.heap.size]? = some (.cells #[va, vb] 24 (0, 0)) := u2.row s1
  have kp : ∀ q, S q → W2.heap[q]? = w.heap[q]? := fun q hq => (u1.trans u2).block q (hS q hq)
  rw [hW2]
  exact node_has (x := ⟨k, 0, nob, nob⟩) (f := fr2 a b) s2 rfl (Nat.le_refl _) (.inr (.inr rfl)) (.inr (.inl rfl)) ⟨⟨_, cell_of_row W2 w.heap.size 0 _ _ _ s3, InT.keep ha (fun _ h => .inl h) kp⟩, ⟨_, cell_of_row W2 w.heap.size 1 _ _ _ s3, InT.keep hb (fun _ h => .inl h) kp⟩, trivial⟩
theorem ni_more {w W0 W : World} {Bn : Nat} {kind : Int} {R : Rs Fr} {qs : List (Option Addr)} {pre : List (Nat × Option Addr)} {x : Nat × Option Addr} {A : Option Addr} (hz : w.heap.size ≤ W0.heap.size) (_hB : w.heap.size ≤ Bn) (bX : Boxed W Bn 24 (.pointer A)) (g : Gs (On Bn) W0 W)
    (ht : pre = bwd qs pre.length → pre.length ≤ qs.length → ∀ f j, R = .inl (f, j) → InT W (Sc w Bn W) (.pointer A) (foldK kind (dropF f (qs.length - pre.length))))
    (hget : ∀ f j, R = .inl (f, j) → f.len = qs.length + 1 ∧ ∀ (i : Nat) B, qs[i]? = some B → ∃ t, f.get i = some t ∧ InT W0 (Sc w Bn W0) (.pointer B) t) :
    NI w W0 Bn kind R qs (pre ++ [x]) (((W.setCell ⟨Bn, 0, none⟩ (.pointer (some ⟨W.heap.size + 1, 0, none⟩))).alloc (.cells #[.pointer x.2, .pointer A] 24)).alloc (.cells #[.int .i64 kind, .int .i64 0, .string nob, .string ⟨#[]⟩, .slice (some ⟨W.heap.size, 0, none⟩) 2 2] 66)) := by
  obtain ⟨Ws, hWs⟩ : ∃ Ws, W.setCell ⟨Bn, 0, none⟩ (.pointer (some ⟨W.heap.size + 1, 0, none⟩)) = Ws := ⟨_, rfl⟩
  have zs : Ws.heap.size = W.heap.size := by rw [← hWs]; simp [World.setCell]
  have bs : Boxed Ws Bn 24 (.pointer (some ⟨W.heap.size + 1, 0, none⟩)) := by rw [← hWs]; exact bX.set _
  have gs : Gs (On Bn) W0 Ws := by rw [← hWs]; exact g.set _ _ (.inl rfl)
  have hcn : ∀ q, q ≠ Bn → Ws.heap[q]? = W.heap[q]? := fun q hq => by rw [← hWs]; exact Below.heap_setCell _ _ _ _ hq
  rw [hWs, ← zs]
  rw [← zs] at bs
  refine ⟨_, (bs.alloc _).alloc _, (gs.alloc _).alloc _, fun h1 h2 f j hf => ?_⟩
  obtain ⟨hlen, hget⟩ := hget f j hf
  have hl1 : (pre ++ [x]).length = pre.length + 1 := by simp
  rw [hl1] at h1 h2 ⊢
  rw [bwd_succ] at h1
  obtain ⟨h3, h4⟩ := List.append_inj' h1 rfl
  have h5 : x = (qs.length - 1 - pre.length, (qs[qs.length - 1 - pre.length]?).getD none) := by simpa using h4
  obtain ⟨B, hBq⟩ : ∃ B, qs[qs.length - 1 - pre.length]? = some B := ⟨_, List.getElem?_eq_getElem (by omega)⟩
  obtain ⟨t, hft, htt⟩ := hget _ B hBq
  have hx : x.2 = B := by rw [h5]; show (qs[qs.length - 1 - pre.length]?).getD none = B; rw [hBq]; rfl
  have hta := ht h3 (by omega) f j hf
  have hi : qs.length - (pre.length + 1) = qs.length - 1 - pre.length := by omega
  have hi2 : qs.length - pre.length = qs.length - 1 - pre.length + 1 := by omega
  rw [hi, foldK_step hft (by omega)]
  rw [hi2] at hta
  have kp : ∀ q, Sc w Bn W q → Ws.heap[q]? = W.heap[q]? := fun q hq => hcn q hq.2.1
  have h6 := two_in (k := kind) (InT.keep (sc_keep g htt) (fun _ h => h) kp) (InT.keep hta (fun _ h => h) kp) (fun q hq => by rw [zs]; exact hq.1.2)
  rw [← hx] at h6
  have hbW : Bn < W.heap.size := bX.lt
  have hgz := g.size
  have z2 : ((Ws.alloc (.cells #[.pointer x.2, .pointer A] 24)).alloc (.cells #[.int .i64 kind, .int .i64 0, .string nob, .string ⟨#[]⟩, .slice (some ⟨Ws.heap.size, 0, none⟩) 2 2] 66)).heap.size = Ws.heap.size + 2 := by simp
  refine InT.keep h6 (fun q hq => ?_) fun q hq => rfl
  rcases hq with hq | rfl | rfl
  · exact ⟨⟨hq.1.1, by rw [z2]; have := hq.1.2; omega⟩, hq.2.1, hq.2.2.keep ((((Up.refl Ws).alloc _).alloc _).block q (by rw [zs]; exact hq.1.2) |>.trans (hcn q hq.2.1))⟩
  · exact ⟨⟨by omega, by rw [z2]; omega⟩, by omega, ⟨_, old_row _ (heap_alloc_new Ws _), rfl⟩⟩
  · exact ⟨⟨by omega, by rw [z2]; omega⟩, by omega, ⟨_, new_at _ _ (by simp), rfl⟩⟩
theorem gs_narrow {b Bn : Nat} {a w w' : World} (h : Gs (On b) a w) (g : Gs (On Bn) w w') (hB : a.heap.size ≤ Bn) : Gs (On b) a w' :=
  ⟨g.os.trans h.os, g.tape.trans h.tape, g.output.trans h.output, Nat.le_trans h.size g.size, fun k hk hn => (g.block k (Nat.lt_of_lt_of_le hk h.size) (by unfold On; omega)).trans (h.block k hk hn)⟩
theorem dropF_0 (f : Fr) : dropF f 0 = f := by cases f <;> rfl
theorem own_capP {w : World} {B : Nat} {e : TypeId} {g n cp k : Nat} {ps : List Value} (h : w.ownsRow B e 1 (.slice (some ⟨g, 0, none⟩) n cp) k ps) : k ≤ cp := by
  rcases h.2 with ⟨h, -⟩ | ⟨g', cap, cur, h, -, -, hc, -⟩
  · cases h
  · cases h
    exact hc
theorem modify_push {α : Type} (a : Array α) (x : α) (f : α → α) (i : Nat) (h : i < a.size) : (a.push x).modify i f = (a.modify i f).push x := by
  apply Array.ext
  · simp
  · intro j h1 h2
    simp only [Array.size_modify, Array.size_push] at h1
    rw [Array.getElem_modify, Array.getElem_push, Array.getElem_push]
    simp only [Array.size_modify]
    by_cases hj : j < a.size
    · rw [dif_pos hj, dif_pos hj, Array.getElem_modify]
    · rw [dif_neg hj, dif_neg hj, if_neg (by omega)]
theorem setCell_alloc (w : World) (o : Obj) (p : Addr) (v : Value) (h : p.block < w.heap.size) : (w.alloc o).setCell p v = (w.setCell p v).alloc o := by
  unfold World.setCell World.alloc
  simp only
  rw [modify_push _ _ _ _ h]
def jv (Bk : Nat) : Value := .func (.func 164) #[] #[.pointer (some ⟨Bk, 0, none⟩)]
theorem pairs_any (kind : Int) (w : World) : Calls Tryz.prog 86 #[.int .i64 kind] w fun e w' => e = .returned (jv w.heap.size) ∧ w' = w.alloc (.cells #[.int .i64 kind] 3) := by
  go_enter Tryz.func86, Tryz.ntmps86
  go_wp2_with fail
  go_ret
  exact ⟨rfl, rfl⟩
theorem pairsLit (A1 A2 : Option Addr) (Bk : Nat) (kind : Int) (w : World) (ck : w.cell? ⟨Bk, 0, none⟩ = some (.int .i64 kind)) : Calls Tryz.prog 164 #[.pointer A1, .pointer A2, .pointer (some ⟨Bk, 0, none⟩)] w fun e w' => e = .returned (.pointer (some ⟨w.heap.size + 1, 0, none⟩)) ∧
    w' = (w.alloc (.cells #[.pointer A1, .pointer A2] 24)).alloc (.cells #[.int .i64 kind, .int .i64 0, .string ⟨#[]⟩, .string ⟨#[]⟩, .slice (some ⟨w.heap.size, 0, none⟩) 2 2] 66) := by
  go_enter Tryz.func164, Tryz.ntmps164
  go_wp2_with fail
  go_ret
  exact ⟨rfl, rfl⟩
set_option maxHeartbeats 12800000 in
set_option maxRecDepth 100000 in
theorem nested_any (b : Nat) (v : Value) (sign : ByteArray) (kind : Int) (part : Value) (R : Rs Fr) (J : Fr → World → Prop) (w : World) (hb : b < w.heap.size) (Bk : Nat) (hk : w.heap[Bk]? = some (.cells #[.int .i64 kind] 3 (0, 0))) (hkb : Bk ≠ b)
    (hrow : Calls Tryz.prog 89 #[.pointer (some ⟨b, 0, none⟩), .string sign, part] (w.alloc (.cells #[jv Bk] 116)) (RowP (On b) b v R J (w.alloc (.cells #[jv Bk] 116)))) :
    Calls Tryz.prog 84 #[.pointer (some ⟨b, 0, none⟩), .string sign, part, jv Bk] w (PaT (On b) b v (toT kind R) (fun _ _ => True) w) := by
  refine (callsIn_wide (n := 3)).1 ?_
  refine callsIn_of_wp_marks Tryz.func84 rfl trivial ?_ rfl
  simp only [Tryz.ntmps84, List.size_toArray, List.length_cons, List.length_nil, Nat.reduceAdd, Nat.reduceSub, Array.replicate_succ, Array.replicate_zero, List.push_toArray, List.append_toArray, List.nil_append, List.cons_append]
  have HROW := Lib.hid hrow
  have bK := Boxed.new w 116 (jv Bk)
  have HBK := Lib.hid bK
  have HKD := Lib.hid (((Up.refl w).alloc (.cells #[jv Bk] 116)).row hk)
  have hkw := heap_lt hk
  clear hrow bK hk
  have HBW := Lib.hid hb
  gi_wp2_with (refine ⟨trivial, ?_⟩; gi_at_call 89; refine (callsIn_wide.2 HROW.out).mono ?_; rintro e w1 ⟨vo, ps, rfl, ⟨ho, hpt⟩, hp0, hpl, g1, hR1⟩; obtain ⟨g, cp, rfl, hbg, hltg⟩ := ho.form hp0; obtain ⟨n, hn⟩ : ∃ n, ps.length = n := ⟨_, rfl⟩; rw [hn] at hp0 hpl ho ⊢; obtain ⟨m, hm⟩ : ∃ m, n = m + 1 := ⟨n - 1, by omega⟩; have hw : IntKind.i64.wrap ((n : Int) - 1) = (m : Int) := (by rw [IntKind.wrap_i64]; omega); have hmn : m < n := (by omega); have hcp : n ≤ cp := own_capP ho; have hmc : m ≤ cp := (by omega); obtain ⟨qs0, hqs0⟩ := hpt.list; obtain ⟨Al, hAl⟩ : ∃ Al, qs0[m]? = some Al := ⟨_, List.getElem?_eq_getElem (by rw [hqs0, List.length_map] at hn; omega)⟩; have hcl : w1.cell? ⟨g, m, none⟩ = some (.pointer Al) := (by have h1 := ho.cells (g := g) rfl m (.pointer Al) (by rw [hqs0, List.getElem?_map, hAl]; rfl); have e1 : (⟨g, 0, none⟩ : Addr).add m = ⟨g, 0 + m, none⟩ := (by unfold Addr.add; split <;> simp_all); rw [e1, Nat.zero_add] at h1; exact h1); have HO := Lib.hid ho; have G1 := Lib.hid g1; have HR1 := Lib.hid hR1; have HPT := Lib.hid hqs0; have HN := Lib.hid hn; have HM := Lib.hid hm; have HAL := Lib.hid hAl; clear ho g1 hR1 hqs0 hpt hn hm hAl hbg)
  refine ⟨trivial, (back_in _ _ trivial rfl _ _ _ _).mono ?_⟩
  rintro e w2 ⟨rfl, rfl⟩
  gi_wp2
  obtain ⟨W0, hW0⟩ : ∃ W0, (w1.alloc (.cells #[.pointer Al] 24)).alloc (.cells #[.slice (some ⟨g, 0, none⟩) m cp] 30) = W0 := ⟨_, rfl⟩
  have z0 : W0.heap.size = w1.heap.size + 2 := by rw [← hW0]; simp
  have bN : Boxed W0 w1.heap.size 24 (.pointer Al) := by rw [← hW0]; exact (Boxed.new w1 _ _).alloc _
  have bS : Boxed W0 (w1.heap.size + 1) 30 (.slice (some ⟨g, 0, none⟩) m cp) := by
    rw [← hW0]
    have h := Boxed.new (w1.alloc (.cells #[.pointer Al] 24)) 30 (.slice (some ⟨g, 0, none⟩) m cp)
    rwa [World.size_alloc] at h
  have u0 : Up w1 W0 := by rw [← hW0]; exact ((Up.refl w1).alloc _).alloc _
  have g1 := G1.out
  have z1 : w.heap.size + 1 ≤ w1.heap.size := by have := g1.size; rwa [World.size_alloc] at this
  have hn0 : qs0.length = n := by have := HN.out; rw [HPT.out, List.length_map] at this; exact this
  have hm := HM.out
  have hql : (qs0.take m).length = m := by rw [List.length_take]; omega
  have hgt : ∀ (i : Nat) B, (qs0.take m)[i]? = some B → qs0[i]? = some B := fun i B h => by
    rw [List.getElem?_take] at h
    split at h
    · exact h
    · cases h
  have hcs : ∀ j, j < (qs0.take m).length → W0.cell? ⟨g, 0 + j, none⟩ = some (.pointer (((qs0.take m)[j]?).getD none)) := fun j hj => by
    obtain ⟨B, hB⟩ : ∃ B, (qs0.take m)[j]? = some B := ⟨_, List.getElem?_eq_getElem hj⟩
    rw [hB]
    have h1 := HO.out.cells (g := g) rfl j (.pointer B) (by rw [HPT.out, List.getElem?_map, hgt j B hB]; rfl)
    have e1 : (⟨g, 0, none⟩ : Addr).add j = ⟨g, 0 + j, none⟩ := by unfold Addr.add; split <;> simp_all
    rw [e1] at h1
    exact u0.cell h1
  have hall : ∀ f j, R = .inl (f, j) → f.len = n ∧ ∀ (i : Nat) B, qs0[i]? = some B → ∃ t, f.get i = some t ∧ InT W0 (Sc w w1.heap.size W0) (.pointer B) t := fun f j hf => by
    have hr := HR1.out
    rw [hf] at hr
    have hrt : RwT (w.alloc (.cells #[jv Bk] 116)) w1 (.slice (some ⟨g, 0, none⟩) ps.length cp) ps f := hr.1
    refine ⟨by rw [← hrt.len, HN.out], fun i B hB => ?_⟩
    obtain ⟨t, h1, h2⟩ := PtF.get hrt (i := i) (v := .pointer B) (by rw [HPT.out, List.getElem?_map, hB]; rfl)
    refine ⟨t, h1, InT.keep h2.cells (fun q hq => ?_) fun q hq => u0.block q hq.1.1.2⟩
    have h3 := hq.1.1.1
    have h4 := hq.1.1.2
    rw [World.size_alloc] at h3
    exact ⟨⟨by omega, by omega⟩, by omega, hq.2.keep (u0.block q h4)⟩
  have HALL := Lib.hid hall
  have hget : ∀ f j, R = .inl (f, j) → f.len = (qs0.take m).length + 1 ∧ ∀ (i : Nat) B, (qs0.take m)[i]? = some B → ∃ t, f.get i = some t ∧ InT W0 (Sc w w1.heap.size W0) (.pointer B) t := fun f j hf => by
    obtain ⟨h1, h2⟩ := HALL.out f j hf
    exact ⟨by rw [hql]; omega, fun i B hB => h2 i B (hgt i B hB)⟩
  have hni : NI w W0 w1.heap.size kind R (qs0.take m) [] W0 := ⟨Al, bN, Gs.refl _ _, fun _ _ f j hf => by
    obtain ⟨h1, h2⟩ := HALL.out f j hf
    obtain ⟨t, h3, h4⟩ := h2 m Al HAL.out
    rw [hql]
    show InT W0 _ _ (foldK kind (dropF f m))
    rw [foldK_last h3 (by omega)]
    exact h4⟩
  rw [hW0]
  obtain ⟨qs, hqs⟩ : ∃ qs, qs0.take m = qs := ⟨_, rfl⟩
  rw [hqs] at hql hcs hget hni
  have HGET := Lib.hid hget
  have HNI := Lib.hid hni
  have HU0 := Lib.hid u0
  have HBS := Lib.hid bS
  have HCS := Lib.hid hcs
  have gk : W0.heap[w.heap.size]? = some (.cells #[jv Bk] 116 (0, 0)) := u0.row (g1.row HBK.out (by unfold On; omega))
  have gk2 : W0.heap[Bk]? = some (.cells #[.int .i64 kind] 3 (0, 0)) := u0.row (g1.row HKD.out (by unfold On; omega))
  have HGK := Lib.hid gk
  have HGK2 := Lib.hid gk2
  subst hql
  clear hW0 bN bS u0 g1 hall hget hni hcs hgt hqs gk gk2 hn0 hm
  refine wpIn_rangeFunc_ownF rfl (by decide) (gf := 214) (lb := #[.pointer (some ⟨w1.heap.size + 1, 0, none⟩)]) rfl trivial (enters_of Tryz.func214 (by kernel_rfl) rfl)
    (back_stops Fence.wide 2 w1.heap.size trivial rfl (by decide) (w1.heap.size + 1) W0.heap.size g 0 cp (by omega) (by omega) qs (by omega) W0 (by omega) (by omega) (Nat.le_refl _) HBS.out.cell HCS.out)
    (fun h k => Kq.trans h k) (Kq.put (Nat.le_refl _)) (Below.refl _ _) (fun _ => rfl)
    (NI w W0 w1.heap.size kind R qs) (fun _ _ _ => False) (ni_own (by omega)) (fun _ _ _ _ _ hs _ _ => hs) HNI.out
    (fun x => { tmps := #[.pointer (some ⟨b, 0, none⟩), .string sign, part, jv Bk, undef, undef, undef, .pointer (some ⟨w.heap.size, 0, none⟩), .pointer none, .slice (some ⟨g, 0, none⟩) n cp, .int .i64 (qs.length : Int), .pointer (some ⟨w1.heap.size, 0, none⟩), undef, .pointer x.2, .pointer (some ⟨b, 0, none⟩), .string sign, part, .slice (some ⟨g, 0, none⟩) n cp, .slice (some ⟨g, 0, none⟩) n cp, .int .i64 (n : Int), .int .i64 (qs.length : Int), .slice (some ⟨g, 0, none⟩) n cp, .int .i64 (qs.length : Int), .pointer (some ⟨g, qs.length, none⟩), .pointer Al, .slice (some ⟨g, 0, none⟩) n cp, .int .i64 (qs.length : Int), .slice (some ⟨g, 0, none⟩) qs.length cp, .func (.func 214) #[] #[.pointer (some ⟨w1.heap.size + 1, 0, none⟩)], .int .i64 (x.1 : Int), .pointer x.2, undef, undef, undef, undef, undef], defers := [] }) ?assign ?body ?done ?stop
  case assign =>
    intro l x W K hK
    gi_wp2
    exact hK
  case body =>
    rintro l pre x W ⟨A, bX, gX, hX⟩ _
    have ck : W.cell? ⟨Bk, 0, none⟩ = some (.int .i64 kind) := cell_of_row W Bk 0 _ _ _ (gX.row HGK2.out (by unfold On; omega))
    have cj : W.cell? ⟨w.heap.size, 0, none⟩ = some (.func (.func 164) #[] #[.pointer (some ⟨Bk, 0, none⟩)]) := cell_of_row W w.heap.size 0 _ _ _ (gX.row HGK.out (by unfold On; omega))
    have cX := bX.cell
    have hbl := bX.lt
    have hzW := gX.size
    have HX := Lib.hid hX
    have GX := Lib.hid gX
    have BX := Lib.hid bX
    clear hX gX bX
    gi_wp2_with (refine ⟨trivial, ?_⟩; gi_at_call 164; refine (callsIn_wide.2 (pairsLit _ _ Bk kind _ ck)).mono ?_; rintro e w9 ⟨rfl, h9⟩; have b9 : Boxed w9 w1.heap.size 24 (.pointer A) := (by rw [h9]; exact (BX.out.alloc _).alloc _); have c9 := b9.cell; have f9 := b9.frozen; have hb9 := b9.lt; have H9 := Lib.hid h9; clear h9 b9)
    have h9 := H9.out
    have e9 : w9.setCell ⟨w1.heap.size, 0, none⟩ (.pointer (some ⟨W.heap.size + 1, 0, none⟩)) = ((W.setCell ⟨w1.heap.size, 0, none⟩ (.pointer (some ⟨W.heap.size + 1, 0, none⟩))).alloc (.cells #[.pointer x.2, .pointer A] 24)).alloc (.cells #[.int .i64 kind, .int .i64 0, .string nob, .string ⟨#[]⟩, .slice (some ⟨W.heap.size, 0, none⟩) 2 2] 66) := by
      rw [h9, setCell_alloc _ _ _ _ (by rw [World.size_alloc]; simp only; omega), setCell_alloc _ _ _ _ (by simp only; omega)]
      rfl
    rw [e9]
    refine ⟨((KeepsOthers.setCell _ _ _).trans (KeepsOthers.alloc _ _)).trans (KeepsOthers.alloc _ _), ⟨by simp [World.setCell]; omega, fun q hq hne => ?_⟩, ni_more (by omega) (by omega) BX.out GX.out HX.out HGET.out⟩
    have hs : (W.setCell ⟨w1.heap.size, 0, none⟩ (.pointer (some ⟨W.heap.size + 1, 0, none⟩))).heap.size = W.heap.size := by simp [World.setCell]
    exact ((((Up.refl _).alloc _).alloc _).block q (by rw [hs]; omega)).trans (Below.heap_setCell _ _ _ _ hne)
  case done =>
    rintro D ys W hD rfl hI hK
    have hI2 := (ni_own (by omega)).putObj (.deferred none) hI hD hK rfl
    have HI2 := Lib.hid hI2
    have HK := Lib.hid hK
    obtain ⟨A, bX, gX, hX⟩ := hI
    have cX := bX.cell
    clear hX gX bX hI2
    gi_wp2
    refine ⟨by simp, .inl ⟨_, _, rfl, run_takeDeferred hK, ?_⟩⟩
    refine ⟨_, results_tmp rfl _ _ _, A, rfl, ?_⟩
    obtain ⟨A2, b2, g2, h2⟩ := HI2.out
    have hne : w1.heap.size ≠ D := by omega
    have e2 : A2 = A := by
      have e := b2.cell
      rw [World.cell?_of_block (a := ⟨w1.heap.size, 0, none⟩) (World.putObj_heap_other hne), cX] at e
      injection e with e
      injection e with e
      exact e.symm
    subst e2
    have g1 := G1.out
    have u0 := HU0.out
    have hr1 := HR1.out
    refine ⟨gs_narrow (((Gs.of ((Up.refl w).alloc (.cells #[jv Bk] 116))).trans g1).trans (Gs.of u0)) g2 (by omega), ?_⟩
    cases R with
    | inr e =>
      obtain ⟨p, r⟩ := e
      exact g2.row (u0.row hr1) (by unfold On; omega)
    | inl e =>
      obtain ⟨f, j⟩ := e
      have h3 := h2 (by rw [bwd_len]) (by rw [bwd_len]; exact Nat.le_refl _) f j rfl
      rw [bwd_len, Nat.sub_self, dropF_0] at h3
      exact ⟨InT.keep h3 (fun q hq => hq.1) fun _ _ => rfl, g2.row (u0.row hr1.2.1) (by unfold On; omega), trivial⟩
  case stop =>
    rintro D c pre W _ _ h _
    exact h.elim
end Go.Proofs.YthonaeigacfmbaaGreatDoor
