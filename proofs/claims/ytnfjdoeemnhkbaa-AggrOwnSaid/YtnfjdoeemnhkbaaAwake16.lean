/-
  What the document fixes of layer 16, run.
-/
import Derived.Test.YtnfjdoeemnhkbaaAwkF
namespace Go.Proofs.Ytnfjdoeemnhkbaa
set_option linter.unusedVariables false
open Canon Go.RowKit

theorem awake16_row : isTrue (callN (envOf Try.prog) 60 13 [] (Canon.start Try.prog)) = true := by kernel_rfl
theorem awake16_body : hasBody Try.prog 13 = true := by kernel_rfl

theorem awake16_any (w : World) :
    Calls Try.prog 13 #[] w fun e w' => e = .returned (.bool true) ∧ Below w.heap.size w w' :=
  fit.plain awake16_body awake16_row w

end Go.Proofs.Ytnfjdoeemnhkbaa
