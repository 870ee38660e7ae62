/-
  The document's Paths where there may be no tree: what it tells.
-/
import Derived.Test.YtmjdeadkekhpdaaRtI
namespace Go.Proofs.Ytmjdeadkekhpdaa
open Go.RowKit

def pathsO (kind : Int) : Option Tr → List (List Int)
  | none => []
  | some t => pathsT kind t
theorem refPathsO (o : Option Tr) (ho : ∀ t, o = some t → szT t ≤ 1000000) (kind : Int) (w : World) (Sq : Nat → Prop) (v : Value) (hS : Bel Sq w.heap.size) (hin : InO w Sq v o) :
    Calls Try.prog 29 #[v, .int .i64 kind] w (PaPost (pathsO kind o) w) := by
  cases o with
  | some t => exact refPaths 1000000 t (ho t rfl) (Nat.le_refl _) kind w Sq v hS hin
  | none =>
    have hv : v = .pointer none := hin
    subst hv
    clear hin hS ho
    go_enter Try.func29, Try.ntmps29
    go_wp2_with fail
    go_ret
    exact pa_ret (OwnP.nil _ _) (Below.refl _ _)
end Go.Proofs.Ytmjdeadkekhpdaa
