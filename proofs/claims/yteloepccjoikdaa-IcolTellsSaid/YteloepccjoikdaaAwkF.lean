/-
  The program is such as the runner asks.
  What the document fixes of layer 4, run.
-/
import Derived.Test.YteloepccjoikdaaCanonV
import Derived.Test.YteloepccjoikdaaProg
import Derived.KernelRfl
namespace Go.Proofs.Yteloepccjoikdaa
open Canon

theorem fit : Fit Try.prog := ⟨by kernel_rfl, by kernel_rfl, by kernel_rfl⟩

end Go.Proofs.Yteloepccjoikdaa

namespace Go.Proofs.Yteloepccjoikdaa
set_option linter.unusedVariables false
open Canon Go.RowKit

theorem awake4_row : isTrue (callN (envOf Try.prog) 60 30 [] (Canon.start Try.prog)) = true := by kernel_rfl
theorem awake4_body : hasBody Try.prog 30 = true := by kernel_rfl

theorem awake4_any (w : World) :
    Calls Try.prog 30 #[] w fun e w' => e = .returned (.bool true) ∧ Below w.heap.size w w' :=
  fit.plain awake4_body awake4_row w

end Go.Proofs.Yteloepccjoikdaa
