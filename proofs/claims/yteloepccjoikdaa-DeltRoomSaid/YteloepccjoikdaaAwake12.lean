/-
  What the document fixes of layer 12, run.
-/
import Derived.Test.YteloepccjoikdaaFit
namespace Go.Proofs.Yteloepccjoikdaa
set_option linter.unusedVariables false
open Canon Go.RowKit

theorem awake12_row : isTrue (callN (envOf Try.prog) 60 23 [] (Canon.start Try.prog)) = true := by kernel_rfl
theorem awake12_body : hasBody Try.prog 23 = true := by kernel_rfl

theorem awake12_any (w : World) :
    Calls Try.prog 23 #[] w fun e w' => e = .returned (.bool true) ∧ Below w.heap.size w w' :=
  fit.plain awake12_body awake12_row w

end Go.Proofs.Yteloepccjoikdaa
