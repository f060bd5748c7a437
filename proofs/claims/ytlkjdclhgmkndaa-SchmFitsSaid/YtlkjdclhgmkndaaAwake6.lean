/-
  What the document fixes of layer 6, run.
-/
import Derived.Test.YtlkjdclhgmkndaaFit
namespace Go.Proofs.Ytlkjdclhgmkndaa
set_option linter.unusedVariables false
open Canon Go.RowKit

theorem awake6_row : isTrue (callN (envOf Try.prog) 60 18 [] (Canon.start Try.prog)) = true := by kernel_rfl
theorem awake6_body : hasBody Try.prog 18 = true := by kernel_rfl

theorem awake6_any (w : World) :
    Calls Try.prog 18 #[] w fun e w' => e = .returned (.bool true) ∧ Below w.heap.size w w' :=
  fit.plain awake6_body awake6_row w

end Go.Proofs.Ytlkjdclhgmkndaa
