/-
  What the document fixes of layer 11, run.
-/
import Derived.Test.YtnjeoolbnanmiaaFit
namespace Go.Proofs.Ytnjeoolbnanmiaa
set_option linter.unusedVariables false
open Canon Go.RowKit

theorem awake11_row : isTrue (callN (envOf Try.prog) 60 15 [] (Canon.start Try.prog)) = true := by kernel_rfl
theorem awake11_body : hasBody Try.prog 15 = true := by kernel_rfl

theorem awake11_any (w : World) :
    Calls Try.prog 15 #[] w fun e w' => e = .returned (.bool true) ∧ Below w.heap.size w w' :=
  fit.plain awake11_body awake11_row w

end Go.Proofs.Ytnjeoolbnanmiaa
