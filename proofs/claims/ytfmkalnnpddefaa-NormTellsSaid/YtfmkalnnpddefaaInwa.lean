/-
  Contract of the reference's other.
-/
import Derived.Test.YtfmkalnnpddefaaInwm
namespace Go.Proofs.Ytfmkalnnpddefaa
set_option linter.unusedVariables false
set_option linter.unusedSimpArgs false
open Go.RowKit

set_option maxRecDepth 100000 in
set_option maxHeartbeats 4000000 in
theorem refOther_any (o : Int) (h1 : 1 ≤ o) (h2 : o ≤ 6) (w : World) :
    Calls Try.prog 108 #[.int .i64 o] w fun e w' => e = .returned (.int .i64 (opN o)) ∧ Below w.heap.size w w' := by
  rcases (by omega : o = 1 ∨ o = 2 ∨ o = 3 ∨ o = 4 ∨ o = 5 ∨ o = 6) with rfl | rfl | rfl | rfl | rfl | rfl
  all_goals
    go_enter Try.func108, Try.ntmps108
    go_wp2_with fail
    go_ret
    exact ⟨rfl, below_alloc _ _⟩

end Go.Proofs.Ytfmkalnnpddefaa
