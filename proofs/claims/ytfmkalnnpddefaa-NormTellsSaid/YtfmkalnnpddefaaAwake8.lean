/-
  What the document fixes of layer 8, run.
-/
import Derived.Test.YtfmkalnnpddefaaFit
namespace Go.Proofs.Ytfmkalnnpddefaa
set_option linter.unusedVariables false
open Canon Go.RowKit

theorem awake8_row : isTrue (callN (envOf Try.prog) 60 25 [] (Canon.start Try.prog)) = true := by kernel_rfl
theorem awake8_body : hasBody Try.prog 25 = true := by kernel_rfl

theorem awake8_any (w : World) :
    Calls Try.prog 25 #[] w fun e w' => e = .returned (.bool true) ∧ Below w.heap.size w w' :=
  fit.plain awake8_body awake8_row w

end Go.Proofs.Ytfmkalnnpddefaa
