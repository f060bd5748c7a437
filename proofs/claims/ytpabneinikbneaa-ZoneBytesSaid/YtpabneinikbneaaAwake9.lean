/-
  What the document fixes of layer 9, run.
-/
import Derived.Test.YtpabneinikbneaaFit
namespace Go.Proofs.Ytpabneinikbneaa
set_option linter.unusedVariables false
open Canon Go.RowKit

theorem awake9_row : isTrue (callN (envOf Try.prog) 60 35 [] (Canon.start Try.prog)) = true := by kernel_rfl
theorem awake9_body : hasBody Try.prog 35 = true := by kernel_rfl

theorem awake9_any (w : World) :
    Calls Try.prog 35 #[] w fun e w' => e = .returned (.bool true) ∧ Below w.heap.size w w' :=
  fit.plain awake9_body awake9_row w

end Go.Proofs.Ytpabneinikbneaa
