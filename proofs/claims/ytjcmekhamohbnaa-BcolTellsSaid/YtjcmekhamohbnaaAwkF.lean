/-
  The program is such as the runner asks.
  What the document fixes of layer 4, run.
  What the document fixes of layer 5, run.
-/
import Derived.Test.YtjcmekhamohbnaaCanonV
import Derived.Test.YtjcmekhamohbnaaProg
import Derived.KernelRfl
namespace Go.Proofs.Ytjcmekhamohbnaa
open Canon

theorem fit : Fit Try.prog := ⟨by kernel_rfl, by kernel_rfl, by kernel_rfl⟩

end Go.Proofs.Ytjcmekhamohbnaa

namespace Go.Proofs.Ytjcmekhamohbnaa
set_option linter.unusedVariables false
open Canon Go.RowKit

end Go.Proofs.Ytjcmekhamohbnaa

namespace Go.Proofs.Ytjcmekhamohbnaa
set_option linter.unusedVariables false
open Canon Go.RowKit

theorem awake5_row : isTrue (callN (envOf Try.prog) 60 4 [] (Canon.start Try.prog)) = true := by kernel_rfl
theorem awake5_body : hasBody Try.prog 4 = true := by kernel_rfl

theorem awake5_any (w : World) :
    Calls Try.prog 4 #[] w fun e w' => e = .returned (.bool true) ∧ Below w.heap.size w w' :=
  fit.plain awake5_body awake5_row w

end Go.Proofs.Ytjcmekhamohbnaa
