/-
  What the document fixes of layer 7, run.
-/
import Derived.Test.YtpabneinikbneaaFit
namespace Go.Proofs.Ytpabneinikbneaa
set_option linter.unusedVariables false
open Canon Go.RowKit

theorem awake7_row : isTrue (callN (envOf Try.prog) 60 21 [] (Canon.start Try.prog)) = true := by kernel_rfl
theorem awake7_body : hasBody Try.prog 21 = true := by kernel_rfl

theorem awake7_any (w : World) :
    Calls Try.prog 21 #[] w fun e w' => e = .returned (.bool true) ∧ Below w.heap.size w w' :=
  fit.plain awake7_body awake7_row w

end Go.Proofs.Ytpabneinikbneaa
