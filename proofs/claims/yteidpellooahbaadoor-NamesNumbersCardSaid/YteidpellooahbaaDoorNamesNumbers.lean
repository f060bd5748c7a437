/-
  The walk of NamesNumbers: it has no argument, and is run.
-/
import Derived.Test.YteidpellooahbaaDoorCanonY
import Derived.Test.YteidpellooahbaaDoorFit
namespace Go.Proofs.YteidpellooahbaaDoor
open Canon Go.RowKit

theorem walk_NamesNumbers (w : World) :
    Calls Tryd.prog 3 #[] w fun e w' => e = .returned (.bool true) ∧ Below w.heap.size w w' :=
  fit.plainY (d := 60) (by kernel_rfl) (by kernel_rfl) w

end Go.Proofs.YteidpellooahbaaDoor
