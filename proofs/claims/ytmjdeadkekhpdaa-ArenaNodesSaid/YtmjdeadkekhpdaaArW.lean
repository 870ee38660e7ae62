/-
  The law's works: it tells true.
-/
import Derived.Test.YtmjdeadkekhpdaaArJ
import Derived.Test.YtmjdeadkekhpdaaArS
import Derived.Test.YtmjdeadkekhpdaaRtH
namespace Go.Proofs.Ytmjdeadkekhpdaa
open Go.RowKit

def emp : ByteArray := ⟨#[]⟩
def treeW : Tr := (⟨6, 0, emp, emp⟩, .cons ⟨1, 0, emp, emp⟩ .nil (.cons ⟨2, 0, emp, emp⟩ .nil .nil))
theorem treeW_cel : celT treeW 0 = [⟨⟨1, 0, emp, emp⟩, []⟩, ⟨⟨2, 0, emp, emp⟩, []⟩, ⟨⟨6, 0, emp, emp⟩, [0, 1]⟩] := rfl
theorem four_blocks (w : World) (o1 o2 o3 o4 : Obj) {H : Nat} (hH : w.heap.size = H) : ((((w.alloc o1).alloc o2).alloc o3).alloc o4).heap[H]? = some o1 ∧ ((((w.alloc o1).alloc o2).alloc o3).alloc o4).heap[H + 1]? = some o2 ∧ ((((w.alloc o1).alloc o2).alloc o3).alloc o4).heap[H + 2]? = some o3 ∧ ((((w.alloc o1).alloc o2).alloc o3).alloc o4).heap[H + 3]? = some o4 ∧
    Below H w ((((w.alloc o1).alloc o2).alloc o3).alloc o4) ∧ ((((w.alloc o1).alloc o2).alloc o3).alloc o4).heap.size = H + 4 := by
  obtain ⟨t1, t2, t3, hb, hs⟩ := three_blocks w o1 o2 o3 hH
  have a4 : ((((w.alloc o1).alloc o2).alloc o3).alloc o4).heap[H + 3]? = some o4 := by rw [← hs]; exact heap_alloc_new _ o4
  exact ⟨block_alloc _ t1, block_alloc _ t2, block_alloc _ t3, a4, hb.alloc (by omega) _, by simp; omega⟩
theorem leafW {w : World} {S : Nat → Prop} {b : Nat} {k : Int} (h : w.heap[b]? = some (.cells #[.int .i64 k, .int .i64 0, .string emp, .string emp, .slice none 0 0] 44 (0, 0))) (hS : S b) : InT w S (.pointer (some ⟨b, 0, none⟩)) (⟨k, 0, emp, emp⟩, .nil) :=
  ⟨b, 0, none, 0, rfl, hS, ⟨_, _, h⟩, cell_of_row w b 0 _ _ _ h, cell_of_row w b 1 _ _ _ h, cell_of_row w b 2 _ _ _ h, cell_of_row w b 3 _ _ _ h, cell_of_row w b 4 _ _ _ h, Nat.le_refl _, fun hn => absurd hn (by simp [Fr.len])⟩
theorem treeW_in {w : World} {S : Nat → Prop} {H : Nat} (h1 : w.heap[H]? = some (.cells #[.int .i64 1, .int .i64 0, .string emp, .string emp, .slice none 0 0] 44 (0, 0))) (h2 : w.heap[H + 1]? = some (.cells #[.int .i64 2, .int .i64 0, .string emp, .string emp, .slice none 0 0] 44 (0, 0)))
    (h3 : w.heap[H + 2]? = some (.cells #[.pointer (some ⟨H, 0, none⟩), .pointer (some ⟨H + 1, 0, none⟩)] 26 (0, 0))) (h4 : w.heap[H + 3]? = some (.cells #[.int .i64 6, .int .i64 0, .string emp, .string emp, .slice (some ⟨H + 2, 0, none⟩) 2 2] 44 (0, 0)))
    (hS : S H ∧ S (H + 1) ∧ S (H + 2) ∧ S (H + 3)) : InT w S (.pointer (some ⟨H + 3, 0, none⟩)) treeW :=
  ⟨H + 3, 0, some ⟨H + 2, 0, none⟩, 2, rfl, hS.2.2.2, ⟨_, _, h4⟩, cell_of_row w (H + 3) 0 _ _ _ h4, cell_of_row w (H + 3) 1 _ _ _ h4, cell_of_row w (H + 3) 2 _ _ _ h4, cell_of_row w (H + 3) 3 _ _ _ h4, cell_of_row w (H + 3) 4 _ _ _ h4, Nat.le_refl _,
    fun _ => ⟨H + 2, 0, rfl, hS.2.2.1, ⟨⟨_, cell_of_row w (H + 2) 0 _ _ _ h3, leafW h1 hS.1⟩, ⟨⟨_, cell_of_row w (H + 2) 1 _ _ _ h3, leafW h2 hS.2.1⟩, trivial⟩⟩⟩⟩
set_option maxHeartbeats 6400000 in
set_option maxRecDepth 100000 in
theorem works_any (w : World) : Calls Try.prog 13 #[] w (SbPost true w) := by
  obtain ⟨H, hH⟩ : ∃ H, w.heap.size = H := ⟨_, rfl⟩
  obtain ⟨W1, hW1⟩ : ∃ W1, W1 = (((w.alloc (.cells #[.int .i64 1, .int .i64 0, .string ⟨#[]⟩, .string ⟨#[]⟩, .slice none 0 0] 44)).alloc (.cells #[.int .i64 2, .int .i64 0, .string ⟨#[]⟩, .string ⟨#[]⟩, .slice none 0 0] 44)).alloc (.cells #[.pointer (some ⟨H, 0, none⟩), .pointer (some ⟨H + 1, 0, none⟩)] 26)).alloc (.cells #[.int .i64 6, .int .i64 0, .string ⟨#[]⟩, .string ⟨#[]⟩, .slice (some ⟨H + 1 + 1, 0, none⟩) 2 2] 44) := ⟨_, rfl⟩
  have four := four_blocks w (.cells #[.int .i64 1, .int .i64 0, .string ⟨#[]⟩, .string ⟨#[]⟩, .slice none 0 0] 44) (.cells #[.int .i64 2, .int .i64 0, .string ⟨#[]⟩, .string ⟨#[]⟩, .slice none 0 0] 44) (.cells #[.pointer (some ⟨H, 0, none⟩), .pointer (some ⟨H + 1, 0, none⟩)] 26) (.cells #[.int .i64 6, .int .i64 0, .string ⟨#[]⟩, .string ⟨#[]⟩, .slice (some ⟨H + 1 + 1, 0, none⟩) 2 2] 44) hH
  rw [← hW1] at four
  obtain ⟨t1, t2, t3, t4, hb1, hs1⟩ := four
  have hin : InT W1 (fun q => q < W1.heap.size) (.pointer (some ⟨H + 1 + 1 + 1, 0, none⟩)) treeW := treeW_in t1 t2 t3 t4 ⟨by omega, by omega, by omega, by omega⟩
  have cP := arPack treeW (by decide) W1 (fun q => q < W1.heap.size) (.pointer (some ⟨H + 1 + 1 + 1, 0, none⟩)) (fun _ h => h) hin
  rw [treeW_cel] at cP
  have HIN := Lib.hid hin
  have HH := Lib.hid hH
  have HW1 := Lib.hid hW1
  have HB1 := Lib.hid hb1
  clear hH hW1 t1 t2 t3 t4 hb1 hs1 hin
  go_enter Try.func13, Try.ntmps13
  go_wp2_with fail
  rw [HH.out, ← HW1.out]
  refine cP.mono ?_
  rintro e w2 ⟨v2, rfl, hcl, hb2⟩
  obtain ⟨A, c, rfl, hc, hat⟩ := hcl
  obtain ⟨b, o, hA, hbb, k10, -, -, -, -, -, -⟩ := hat 1 _ rfl
  obtain ⟨b', o', hA', hbb', -, -, -, -, kv, k24, hkv⟩ := hat 2 _ rfl
  subst hA
  injection hA' with hA'
  injection hA' with e1 e2
  subst e1 e2
  simp only at k10 k24 hkv
  obtain ⟨KA, kc, rfl, hkc, hkl⟩ := hkv
  have k10a : w2.cell? ⟨b, o + 5, none⟩ = some (.int .i64 2) := k10
  have k24a : w2.cell? ⟨b, o + 14, none⟩ = some (.slice KA 2 kc) := k24
  have k24b : w2.cell? ⟨b, o + 10 + 4, none⟩ = some (.slice KA 2 kc) := k24
  have hsz2 := hb2.size
  have hbx := ((Below.refl w2.heap.size w2).alloc (Nat.le_refl _) (.cells #[.slice (some ⟨b, o, none⟩) 3 c] 24))
  have hrow : ((w2.alloc (.cells #[.slice (some ⟨b, o, none⟩) 3 c] 24)).alloc (.cells #[.int .i64 0, .int .i64 1] 3)).heap[w2.heap.size + 1]? = some (.cells #[.int .i64 0, .int .i64 1] 3 (0, 0)) := by
    have h1 : (w2.alloc (.cells #[.slice (some ⟨b, o, none⟩) 3 c] 24)).heap.size = w2.heap.size + 1 := by simp
    rw [← h1]
    exact heap_alloc_new _ _
  have cQ := samePath_any [0, 1] [0, 1] ((w2.alloc (.cells #[.slice (some ⟨b, o, none⟩) 3 c] 24)).alloc (.cells #[.int .i64 0, .int .i64 1] 3)) w2.heap.size (w2.heap.size + 2) (.slice KA 2 kc) (.slice (some ⟨w2.heap.size + 1, 0, none⟩) 2 2)
    ⟨KA, kc, rfl, hkc, fun j u hu => by
      obtain ⟨b3, o3, h1, h2, h3⟩ := hkl j u hu
      exact ⟨b3, o3, h1, h2, ((hbx.alloc (by simp) _).cell (p := ⟨b3, o3 + j, none⟩) h2).trans h3⟩⟩
    ⟨_, 2, rfl, Nat.le_refl _, fun j u hu => ⟨w2.heap.size + 1, 0, rfl, by omega, by
      rw [Nat.zero_add, cell_of_row _ (w2.heap.size + 1) j _ _ _ hrow]
      match j, hu with
      | 0, hu => simp at hu; subst hu; rfl
      | 1, hu => simp at hu; subst hu; rfl
      | j + 2, hu => simp at hu⟩⟩ (by simp) true ⟨fun _ => rfl, fun _ => rfl⟩
  have cS := fun W (hW : Below w2.heap.size w2 W) => arSize (some treeW) W (fun q => q < W1.heap.size) (.pointer (some ⟨H + 1 + 1 + 1, 0, none⟩)) (fun q h => by have := hW.size; omega) (InT.below HIN.out (fun _ h => h) (hb2.trans (hW.mono hsz2))) (by decide)
  have cE := fun W (hW : Below w2.heap.size w2 W) => arSame (some treeW) (some treeW) W (fun q => q < W1.heap.size) (fun q => q < W1.heap.size) (.pointer (some ⟨H + 1 + 1 + 1, 0, none⟩)) (.pointer (some ⟨H + 1 + 1 + 1, 0, none⟩)) (fun q h => by have := hW.size; omega) (fun q h => by have := hW.size; omega) (InT.below HIN.out (fun _ h => h) (hb2.trans (hW.mono hsz2))) (InT.below HIN.out (fun _ h => h) (hb2.trans (hW.mono hsz2))) (by decide) true ⟨fun _ => rfl, fun _ => rfl⟩
  have hz3 : szO (some treeW) = 3 := rfl
  rw [hz3] at cS
  have CS := Lib.hid cS
  have CE := Lib.hid cE
  have HBX := Lib.hid (hbx.alloc (by simp) (.cells #[.int .i64 0, .int .i64 1] 3))
  have HB2 := Lib.hid (HB1.out.trans (hb2.mono (by have := HB1.out.size; have := HH.out; omega)))
  clear hat hkl hkc hrow hbx cS cE cP hz3 hb2 k10 k24
  go_wp2_with fail
  refine cQ.mono ?_
  rintro e w3 ⟨rfl, qd, hw3⟩
  have hb3 : Below w2.heap.size w2 w3 := by rw [hw3]; exact below_drewN' HBX.out qd
  have HB3 := Lib.hid hb3
  clear hw3 hb3 cQ
  go_wp2_with fail
  refine (CS.out w3 HB3.out).mono ?_
  rintro e w4 ⟨rfl, hb4⟩
  have HB4 := Lib.hid (HB3.out.trans (hb4.mono HB3.out.size))
  clear hb4
  go_wp2_with fail
  refine (CE.out w4 HB4.out).mono ?_
  rintro e w5 ⟨rfl, hb5⟩
  have HB5 := Lib.hid (HB4.out.trans (hb5.mono HB4.out.size))
  clear hb5
  go_wp2_with fail
  go_ret
  exact ⟨rfl, by rw [HH.out]; exact HB2.out.trans (HB5.out.mono HB2.out.size |>.mono (by have := HH.out; have := HB2.out.size; omega))⟩
end Go.Proofs.Ytmjdeadkekhpdaa
