/-
  What the document fixes of layer 5, run.
-/
import Derived.Test.YteloepccjoikdaaFit
namespace Go.Proofs.Yteloepccjoikdaa
set_option linter.unusedVariables false
open Canon Go.RowKit

theorem awake5_row : isTrue (callN (envOf Try.prog) 60 38 [] (Canon.start Try.prog)) = true := by kernel_rfl
theorem awake5_body : hasBody Try.prog 38 = true := by kernel_rfl

theorem awake5_any (w : World) :
    Calls Try.prog 38 #[] w fun e w' => e = .returned (.bool true) ∧ Below w.heap.size w w' :=
  fit.plain awake5_body awake5_row w

end Go.Proofs.Yteloepccjoikdaa
