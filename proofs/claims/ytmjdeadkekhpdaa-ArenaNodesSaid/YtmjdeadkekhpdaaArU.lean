/-
  What the laws of trees want of each call: the world behind lies above one and the same world, and what a value leads to there it leads to still.
-/
import Derived.Test.YtmjdeadkekhpdaaArW
import Derived.Test.YtmjdeadkekhpdaaArJ
import Derived.Test.YtmjdeadkekhpdaaArC
import Derived.Test.YtmjdeadkekhpdaaRtL
import Derived.Test.YtmjdeadkekhpdaaRtM
import Derived.Test.YtmjdeadkekhpdaaArO
import Derived.Test.YtmjdeadkekhpdaaArT
import Derived.Test.YtmjdeadkekhpdaaArP
import Derived.Test.YtmjdeadkekhpdaaRtJ
import Derived.Test.YtmjdeadkekhpdaaRtG
import Derived.Test.YtmjdeadkekhpdaaRtH
namespace Go.Proofs.Ytmjdeadkekhpdaa
open Go.RowKit

/-- All that was there is as it was. -/
def Up (W w : World) : Prop := Below W.heap.size W w
theorem Up.refl (W : World) : Up W W := Below.refl _ _
theorem Up.trans {W a b : World} (h : Up W a) (k : Up a b) : Up W b := Below.trans h (Below.mono k h.size)
theorem Up.of {W a b : World} (h : Up W a) (k : Below a.heap.size a b) : Up W b := h.trans k
theorem Up.drew {W a : World} (h : Up W a) : Up W a.drew := Below.drew h
theorem Up.drew1 (W : World) : Up W W.drew := (Up.refl W).drew
theorem Up.drewN {W a : World} (h : Up W a) (q : Nat) : Up W (a.drewN q) := below_drewN' h q
theorem Up.alloc {W a : World} (h : Up W a) (o : Obj) : Up W (a.alloc o) := Below.alloc h h.size o
theorem Up.cell {W a : World} (h : Up W a) {p : Addr} {v : Value} (k : W.cell? p = some v) : a.cell? p = some v := (Below.cell h (cell_lt k)).trans k
theorem Up.row {W a : World} (h : Up W a) {b : Nat} {o : Obj} (k : W.heap[b]? = some o) : a.heap[b]? = some o := (h.block b (heap_lt k)).trans k
/-- The value leads to this tree, or to none. -/
def HasT (w : World) (v : Value) (o : Option Tr) : Prop := InO w (fun q => q < w.heap.size) v o
theorem HasT.of {w : World} {S : Nat → Prop} {v : Value} {o : Option Tr} (h : InO w S v o) (hb : Bel S w.heap.size) : HasT w v o := h.keep hb fun _ _ => rfl
theorem HasT.up {W w : World} {v : Value} {o : Option Tr} (h : HasT W v o) (u : Up W w) : HasT w v o := InO.keep h (fun _ hq => Nat.lt_of_lt_of_le hq u.size) fun b hb => u.block b hb
theorem HasT.bel {w : World} : Bel (fun q => q < w.heap.size) w.heap.size := fun _ h => h
theorem Sp.up {W w : World} {v : Value} {l : List Int} (h : Sp W W.heap.size v l) (u : Up W w) : Sp w w.heap.size v l := Sp.keep h u.size fun _ hp => Below.cell u hp
theorem Spp.up {W w : World} {v : Value} {l : List (List Int)} (h : Spp W W.heap.size v l) (u : Up W w) : Spp w w.heap.size v l := Spp.keep h u.size fun _ hp => Below.cell u hp
theorem Cls.upp {W w : World} {v : Value} {cs : List Cel} (h : Cls W W.heap.size v cs) (u : Up W w) : Cls w w.heap.size v cs := Cls.keep h u.size fun _ hp => Below.cell u hp
theorem sin_bel' {S : Nat → Prop} {w w' : World} (hS : Bel S w.heap.size) (h : w.heap.size ≤ w'.heap.size) : Bel (Sin S w w') w'.heap.size := fun q hq => by
  rcases hq with hq | hq
  · exact Nat.lt_of_lt_of_le (hS q hq) h
  · exact hq.2
theorem no_bel (n : Nat) : Bel No n := fun _ h => h.elim

/-! ### the program's calls -/
def BoP (b : Bool) (W : World) (e : Ending) (w' : World) : Prop := e = .returned (.bool b) ∧ Up W w'
def NuP (n : Nat) (W : World) (e : Ending) (w' : World) : Prop := e = .returned (.int .i64 (n : Int)) ∧ Up W w'
def TrP (o : Option Tr) (z : Int) (W : World) (e : Ending) (w' : World) : Prop := ∃ v, e = .returned (.tuple #[v, .int .i64 z]) ∧ HasT w' v o ∧ Up W w'
def PaP (L : List (List Int)) (W : World) (e : Ending) (w' : World) : Prop := ∃ v, e = .returned v ∧ Spp w' w'.heap.size v L ∧ Up W w'
theorem TePost.trp {o : Option Tr} {z : Int} {W w : World} {e : Ending} {w' : World} {S : Nat → Prop} (hS : Bel S w.heap.size) (u : Up W w) (h : TePost S o z w e w') : TrP o z W e w' := by
  obtain ⟨v, he, hi, hb⟩ := h
  exact ⟨v, he, HasT.of hi (sin_bel' hS hb.size), u.of hb⟩
theorem uSame (o o' : Option Tr) {W w : World} {v v' : Value} (h : HasT W v o) (h' : HasT W v' o') (hz : szO o ≤ 65536) (b : Bool) (hb : b = true ↔ o = o') (u : Up W w) :
    Calls Try.prog 17 #[v, v'] w (BoP b W) :=
  (arSame o o' w _ _ v v' HasT.bel HasT.bel (h.up u) (h'.up u) hz b hb).mono fun _ _ k => ⟨k.1, u.of k.2⟩
theorem rSame (o o' : Option Tr) {W w : World} {v v' : Value} (h : HasT W v o) (h' : HasT W v' o') (hz : szO o ≤ 65536) (b : Bool) (hb : b = true ↔ o = o') (u : Up W w) :
    Calls Try.prog 12 #[v, v'] w (BoP b W) :=
  (refSameO o o' w _ _ v v' (h.up u) (h'.up u) (by omega) b hb).mono fun _ _ k => by obtain ⟨k1, q, rfl⟩ := k; exact ⟨k1, u.drewN q⟩
theorem uSize (o : Option Tr) {W w : World} {v : Value} (h : HasT W v o) (hz : szO o ≤ 65536) (u : Up W w) : Calls Try.prog 18 #[v] w (NuP (szO o) W) :=
  (arSize o w _ v HasT.bel (h.up u) hz).mono fun _ _ k => ⟨k.1, u.of k.2⟩
theorem uDeep (o : Option Tr) {W w : World} {v : Value} (h : HasT W v o) (hz : szO o ≤ 65536) (u : Up W w) : Calls Try.prog 20 #[v] w (NuP (dpO o) W) :=
  (arDeep o w _ v HasT.bel (h.up u) hz).mono fun _ _ k => ⟨k.1, u.of k.2⟩
theorem rSize (o : Option Tr) {W w : World} {v : Value} (h : HasT W v o) (hz : szO o ≤ 65536) (u : Up W w) : Calls Try.prog 19 #[v] w (NuP (szO o) W) :=
  (refSizeO o (by omega) w _ v (h.up u)).mono fun _ _ k => ⟨k.1, k.2 ▸ u⟩
theorem rDeep (o : Option Tr) {W w : World} {v : Value} (h : HasT W v o) (hz : szO o ≤ 65536) (u : Up W w) : Calls Try.prog 21 #[v] w (NuP (dpO o) W) :=
  (refDeepO o (by omega) w _ v (h.up u)).mono fun _ _ k => ⟨k.1, k.2 ▸ u⟩
theorem AtPost.trp {o : Option Tr} {z : Int} {W w : World} {e : Ending} {w' : World} (u : Up W w) (h : AtPost (fun q => q < w.heap.size) o z w e w') : TrP o z W e w' := by
  obtain ⟨v, he, hi, q, rfl⟩ := h
  exact ⟨v, he, hi, u.drewN q⟩
theorem uAt (o : Option Tr) (l : List Int) {W w : World} {v pv : Value} (h : HasT W v o) (hp : Sp W W.heap.size pv l) (hl : l.length ≤ 1000000) (u : Up W w) :
    Calls Try.prog 23 #[v, pv] w (TrP (atO o l) (atE o l) W) :=
  (arAt o l w _ _ v pv (h.up u) (hp.up u) (by omega)).mono fun _ _ k => AtPost.trp u k
theorem rAt (o : Option Tr) (l : List Int) {W w : World} {v pv : Value} (h : HasT W v o) (hp : Sp W W.heap.size pv l) (hl : l.length ≤ 1000000) (hz : szO o ≤ 65536) (u : Up W w) :
    Calls Try.prog 24 #[v, pv] w (TrP (atO o l) (atE o l) W) :=
  (refAt o l w _ _ v pv (h.up u) (hp.up u) (by omega) (by omega)).mono fun _ _ k => AtPost.trp u k
theorem uPut (o : Option Tr) (l : List Int) (s : Option Tr) {W w : World} {v pv sv : Value} (h : HasT W v o) (hs : HasT W sv s) (hp : Sp W W.heap.size pv l) (hl : l.length ≤ 1000000) (hz : szO o ≤ 65536) (u : Up W w) :
    Calls Try.prog 25 #[v, pv, sv] w (TrP (putO o l s) (putE o l s) W) :=
  (arPut o l s w _ v pv sv HasT.bel (h.up u) (hs.up u) (hp.up u) hl (by omega)).mono fun _ _ k => TePost.trp HasT.bel u k
theorem rPut (o : Option Tr) (l : List Int) (s : Option Tr) {W w : World} {v pv sv : Value} (h : HasT W v o) (hs : HasT W sv s) (hp : Sp W W.heap.size pv l) (hl : l.length ≤ 1000000) (hz : szO o ≤ 65536) (u : Up W w) :
    Calls Try.prog 26 #[v, pv, sv] w (TrP (putO o l s) (putE o l s) W) :=
  (refPut o l s w _ v pv sv HasT.bel (h.up u) (hs.up u) (hp.up u) hl (by omega)).mono fun _ _ k => TePost.trp HasT.bel u k
theorem uPaths (o : Option Tr) (kind : Int) {W w : World} {v : Value} (h : HasT W v o) (hz : szO o ≤ 60000) (u : Up W w) : Calls Try.prog 28 #[v, .int .i64 kind] w (PaP (pathsO kind o) W) :=
  (arPaths o hz kind w _ v HasT.bel (h.up u)).mono fun _ _ k => by obtain ⟨p, k1, k2, k3⟩ := k; exact ⟨p, k1, k2, u.of k3⟩
theorem Sl1.spz {w : World} {S : Nat → Prop} {v : Value} {l : List Int} (h : Sl1 w S v l) (hB : Bel S w.heap.size) : Sp w w.heap.size v l := h.sp hB
theorem OwnP.spp {w : World} {H : Nat} {v : Value} {L : List (List Int)} (h : OwnP w H v L) : Spp w w.heap.size v L := by
  obtain ⟨A, c, hv, hlc, hj⟩ := h.open
  refine ⟨A, c, hv, hlc, fun j t ht => ?_⟩
  obtain ⟨g, x, hA, _, hgw, hc, hs⟩ := hj j t ht
  exact ⟨g, 0, x, hA, hgw, hc, hs.sp fun q hq => hq.2.1⟩
theorem rPaths (o : Option Tr) (kind : Int) {W w : World} {v : Value} (h : HasT W v o) (hz : szO o ≤ 60000) (u : Up W w) : Calls Try.prog 29 #[v, .int .i64 kind] w (PaP (pathsO kind o) W) :=
  (refPathsO o (fun t ht => by subst ht; have : szO (some t) = szT t := rfl; omega) kind w _ v HasT.bel (h.up u)).mono fun _ _ k => by obtain ⟨p, k1, k2, k3⟩ := k; exact ⟨p, k1, k2.spp, u.of k3⟩
theorem rSamePath (l m : List Int) {W w : World} {v v' : Value} (h : Sp W W.heap.size v l) (h' : Sp W W.heap.size v' m) (hl : l.length ≤ 1000000) (b : Bool) (hb : b = true ↔ l = m) (u : Up W w) :
    Calls Try.prog 30 #[v, v'] w (BoP b W) :=
  (samePath_any l m w _ _ v v' (h.up u) (h'.up u) (by omega) b hb).mono fun _ _ k => by obtain ⟨k1, q, rfl⟩ := k; exact ⟨k1, u.drewN q⟩
theorem rSamePaths (l : List (List Int)) {W w : World} {v v' : Value} (h : Spp W W.heap.size v l) (h' : Spp W W.heap.size v' l) (hl : l.length ≤ 1000000) (hz : ∀ p ∈ l, p.length ≤ 1000000) (u : Up W w) :
    Calls Try.prog 27 #[v, v'] w (BoP true W) :=
  (samePaths_self l w _ _ v v' (h.up u) (h'.up u) (by omega) (fun p hp => by have := hz p hp; omega)).mono fun _ _ k => by obtain ⟨k1, q, rfl⟩ := k; exact ⟨k1, u.drewN q⟩
theorem uWorks {W w : World} (u : Up W w) : Calls Try.prog 13 #[] w (BoP true W) :=
  (works_any w).mono fun _ _ k => ⟨k.1, u.of k.2⟩
theorem uCopy (o : Option Tr) {W w : World} {v : Value} (h : HasT W v o) (hz : szO o ≤ 65536) (u : Up W w) :
    Calls Try.prog 22 #[v] w fun e w' => ∃ v', e = .returned v' ∧ InO w' (fun q => W.heap.size ≤ q ∧ q < w'.heap.size) v' o ∧ Up W w' :=
  (arCopy o w _ v HasT.bel (h.up u) hz).mono fun _ w' k => by
    obtain ⟨p, k1, k2, k3⟩ := k
    refine ⟨p, k1, k2.keep (fun q hq => ?_) (fun _ _ => rfl), u.of k3⟩
    rcases hq with hq | hq
    · exact hq.elim
    · exact ⟨Nat.le_trans u.size hq.1, hq.2⟩
theorem uPack (t : Tr) {W w : World} {v : Value} (h : HasT W v (some t)) (hz : szT t ≤ 8192) (u : Up W w) :
    Calls Try.prog 14 #[v] w fun e w' => ∃ v', e = .returned (.tuple #[.agg #[v'], .int .i64 0]) ∧ Cls w' w'.heap.size v' (celT t 0) ∧ Up W w' :=
  (arPack t hz w _ v HasT.bel (h.up u)).mono fun _ _ k => by obtain ⟨p, k1, k2, k3⟩ := k; exact ⟨p, k1, k2, u.of k3⟩
theorem uOpen (cs : List Cel) {W w : World} {v : Value} (h : Cls W W.heap.size v cs) (hk : ∀ (j : Nat) (c : Cel), cs[j]? = some c → c.ks.length ≤ 1000000) (hl : cs.length ≤ 1000000) (u : Up W w) :
    Calls Try.prog 10 #[.agg #[v]] w (TrP (opR cs).1 (opR cs).2 W) :=
  (arOpen cs w v (h.upp u) hk (by omega)).mono fun _ _ k => TePost.trp (no_bel _) u k
theorem rOpen (cs : List Cel) {W w : World} {v : Value} (h : Cls W W.heap.size v cs) (hk : ∀ (j : Nat) (c : Cel), cs[j]? = some c → c.ks.length ≤ 1000000) (hl : cs.length ≤ 1000000) (u : Up W w) :
    Calls Try.prog 11 #[.agg #[v]] w (TrP (opR cs).1 (opR cs).2 W) :=
  (refOpen cs w v (h.upp u) hk (by omega)).mono fun _ _ k => TePost.trp (no_bel _) u k
end Go.Proofs.Ytmjdeadkekhpdaa
