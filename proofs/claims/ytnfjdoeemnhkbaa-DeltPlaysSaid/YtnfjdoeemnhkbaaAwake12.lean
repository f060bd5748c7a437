/-
  What the document fixes of layer 12, run.
-/
import Derived.Test.YtnfjdoeemnhkbaaAwkF
namespace Go.Proofs.Ytnfjdoeemnhkbaa
set_option linter.unusedVariables false
open Canon Go.RowKit

theorem awake12_row : isTrue (callN (envOf Try.prog) 60 43 [] (Canon.start Try.prog)) = true := by kernel_rfl
theorem awake12_body : hasBody Try.prog 43 = true := by kernel_rfl

theorem awake12_any (w : World) :
    Calls Try.prog 43 #[] w fun e w' => e = .returned (.bool true) ∧ Below w.heap.size w w' :=
  fit.plain awake12_body awake12_row w

end Go.Proofs.Ytnfjdoeemnhkbaa
