/-
  What the laws of trees want of each call: the world behind lies above one and the same world, and what a value leads to there it leads to still.
-/
import Derived.Test.YtoejegndbcbkmaaRtH
import Derived.Test.YtoejegndbcbkmaaArC
import Derived.Test.YtoejegndbcbkmaaRtL
import Derived.Test.YtoejegndbcbkmaaRtM
import Derived.Test.YtoejegndbcbkmaaArP
import Derived.Test.YtoejegndbcbkmaaUp
import Derived.Test.YtoejegndbcbkmaaMgK
import Derived.Test.YtoejegndbcbkmaaMgU
import Derived.Test.YtoejegndbcbkmaaMgL
import Derived.Test.YtoejegndbcbkmaaMgM
import Derived.Test.YtoejegndbcbkmaaArOM
import Derived.Test.YtoejegndbcbkmaaMgO
namespace Go.Proofs.Ytoejegndbcbkmaa
open Go.RowKit

theorem Sp.up {W w : World} {v : Value} {l : List Int} (h : Sp W W.heap.size v l) (u : Up W w) : Sp w w.heap.size v l := Sp.keep h u.size fun _ hp => Below.cell u hp
theorem Spp.up {W w : World} {v : Value} {l : List (List Int)} (h : Spp W W.heap.size v l) (u : Up W w) : Spp w w.heap.size v l := Spp.keep h u.size fun _ hp => Below.cell u hp
theorem Cls.upp {W w : World} {v : Value} {cs : List Cel} (h : Cls W W.heap.size v cs) (u : Up W w) : Cls w w.heap.size v cs := Cls.keep h u.size fun _ hp => Below.cell u hp
/-! ### the program's calls -/
def TrP (o : Option Tr) (z : Int) (W : World) (e : Ending) (w' : World) : Prop := ∃ v, e = .returned (.tuple #[v, .int .i64 z]) ∧ HasT w' v o ∧ Up W w'
def PaP (L : List (List Int)) (W : World) (e : Ending) (w' : World) : Prop := ∃ v, e = .returned v ∧ Spp w' w'.heap.size v L ∧ Up W w'
theorem TePost.trp {o : Option Tr} {z : Int} {W w : World} {e : Ending} {w' : World} {S : Nat → Prop} (hS : Bel S w.heap.size) (u : Up W w) (h : TePost S o z w e w') : TrP o z W e w' := by
  obtain ⟨v, he, hi, hb⟩ := h
  exact ⟨v, he, HasT.of hi (sin_bel' hS hb.size), u.of hb⟩
theorem uSize (o : Option Tr) {W w : World} {v : Value} (h : HasT W v o) (hz : szO o ≤ 65536) (u : Up W w) : Calls Try.prog 57 #[v] w (NuP (szO o) W) :=
  (arSize o w _ v HasT.bel (h.up u) hz).mono fun _ _ k => ⟨k.1, u.of k.2⟩
theorem uDeep (o : Option Tr) {W w : World} {v : Value} (h : HasT W v o) (hz : szO o ≤ 65536) (u : Up W w) : Calls Try.prog 19 #[v] w (NuP (dpO o) W) :=
  (arDeep o w _ v HasT.bel (h.up u) hz).mono fun _ _ k => ⟨k.1, u.of k.2⟩
theorem rSize (o : Option Tr) {W w : World} {v : Value} (h : HasT W v o) (hz : szO o ≤ 65536) (u : Up W w) : Calls Try.prog 43 #[v] w (NuP (szO o) W) :=
  (refSizeO o (by omega) w _ v (h.up u)).mono fun _ _ k => ⟨k.1, k.2 ▸ u⟩
theorem rDeep (o : Option Tr) {W w : World} {v : Value} (h : HasT W v o) (hz : szO o ≤ 65536) (u : Up W w) : Calls Try.prog 27 #[v] w (NuP (dpO o) W) :=
  (refDeepO o (by omega) w _ v (h.up u)).mono fun _ _ k => ⟨k.1, k.2 ▸ u⟩
theorem AtPost.trp {o : Option Tr} {z : Int} {W w : World} {e : Ending} {w' : World} (u : Up W w) (h : AtPost (fun q => q < w.heap.size) o z w e w') : TrP o z W e w' := by
  obtain ⟨v, he, hi, q, rfl⟩ := h
  exact ⟨v, he, hi, u.drewN q⟩
theorem uAt (o : Option Tr) (l : List Int) {W w : World} {v pv : Value} (h : HasT W v o) (hp : Sp W W.heap.size pv l) (hl : l.length ≤ 1000000) (u : Up W w) :
    Calls Try.prog 17 #[v, pv] w (TrP (atO o l) (atE o l) W) :=
  (arAt o l w _ _ v pv (h.up u) (hp.up u) (by omega)).mono fun _ _ k => AtPost.trp u k
theorem uPut (o : Option Tr) (l : List Int) (s : Option Tr) {W w : World} {v pv sv : Value} (h : HasT W v o) (hs : HasT W sv s) (hp : Sp W W.heap.size pv l) (hl : l.length ≤ 1000000) (hz : szO o ≤ 65536) (u : Up W w) :
    Calls Try.prog 18 #[v, pv, sv] w (TrP (putO o l s) (putE o l s) W) :=
  (arPut o l s w _ v pv sv HasT.bel (h.up u) (hs.up u) (hp.up u) hl (by omega)).mono fun _ _ k => TePost.trp HasT.bel u k
theorem uPaths (o : Option Tr) (kind : Int) {W w : World} {v : Value} (h : HasT W v o) (hz : szO o ≤ 60000) (u : Up W w) : Calls Try.prog 16 #[v, .int .i64 kind] w (PaP (pathsO kind o) W) :=
  (arPaths o hz kind w _ v HasT.bel (h.up u)).mono fun _ _ k => by obtain ⟨p, k1, k2, k3⟩ := k; exact ⟨p, k1, k2, u.of k3⟩
theorem Sl1.spz {w : World} {S : Nat → Prop} {v : Value} {l : List Int} (h : Sl1 w S v l) (hB : Bel S w.heap.size) : Sp w w.heap.size v l := h.sp hB
theorem OwnP.spp {w : World} {H : Nat} {v : Value} {L : List (List Int)} (h : OwnP w H v L) : Spp w w.heap.size v L := by
  obtain ⟨A, c, hv, hlc, hj⟩ := h.open
  refine ⟨A, c, hv, hlc, fun j t ht => ?_⟩
  obtain ⟨g, x, hA, _, hgw, hc, hs⟩ := hj j t ht
  exact ⟨g, 0, x, hA, hgw, hc, hs.sp fun q hq => hq.2.1⟩
theorem uPack (t : Tr) {W w : World} {v : Value} (h : HasT W v (some t)) (hz : szT t ≤ 8192) (u : Up W w) :
    Calls Try.prog 48 #[v] w fun e w' => ∃ v', e = .returned (.tuple #[.agg #[v'], .int .i64 0]) ∧ Cls w' w'.heap.size v' (celT t 0) ∧ Up W w' :=
  (arPack t hz w _ v HasT.bel (h.up u)).mono fun _ _ k => by obtain ⟨p, k1, k2, k3⟩ := k; exact ⟨p, k1, k2, u.of k3⟩
theorem uOpen (cs : List Cel) {W w : World} {v : Value} (h : Cls W W.heap.size v cs) (hk : ∀ (j : Nat) (c : Cel), cs[j]? = some c → c.ks.length ≤ 1000000) (hl : cs.length ≤ 1000000) (u : Up W w) :
    Calls Try.prog 15 #[.agg #[v]] w (TrP (opR cs).1 (opR cs).2 W) :=
  (arOpen cs w v (h.upp u) hk (by omega)).mono fun _ _ k => TePost.trp (no_bel _) u k
theorem rOpen (cs : List Cel) {W w : World} {v : Value} (h : Cls W W.heap.size v cs) (hk : ∀ (j : Nat) (c : Cel), cs[j]? = some c → c.ks.length ≤ 1000000) (hl : cs.length ≤ 1000000) (u : Up W w) :
    Calls Try.prog 8 #[.agg #[v]] w (TrP (opR cs).1 (opR cs).2 W) :=
  (refOpen cs w v (h.upp u) hk (by omega)).mono fun _ _ k => TePost.trp (no_bel _) u k
end Go.Proofs.Ytoejegndbcbkmaa
