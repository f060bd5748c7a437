/-
  What the document fixes of layer 15, run.
-/
import Derived.Test.YtfmkalnnpddefaaFit
namespace Go.Proofs.Ytfmkalnnpddefaa
set_option linter.unusedVariables false
open Canon Go.RowKit

theorem awake15_row : isTrue (callN (envOf Try.prog) 60 31 [] (Canon.start Try.prog)) = true := by kernel_rfl
theorem awake15_body : hasBody Try.prog 31 = true := by kernel_rfl

theorem awake15_any (w : World) :
    Calls Try.prog 31 #[] w fun e w' => e = .returned (.bool true) ∧ Below w.heap.size w w' :=
  fit.plain awake15_body awake15_row w

end Go.Proofs.Ytfmkalnnpddefaa
