/-
  The walk of IcolForms.
-/
import Derived.Test.YthlfcjpjhajaaaaFit
import Derived.Test.YthlfcjpjhajaaaaIcolFormsk
import Derived.Test.YthlfcjpjhajaaaaIcolFormsa
import Derived.Test.YthlfcjpjhajaaaaIcolFormsb
import Derived.Test.YthlfcjpjhajaaaaIcolFormsc
namespace Go.Proofs.Ythlfcjpjhajaaaa
set_option linter.unusedVariables false
open Canon Go.RowKit

theorem IcolForms_rows : ∀ k, k < 23 → isTrue (callN (Canon.envK Try.prog 9) 60 3 ((rowOf 23) k) (Canon.start Try.prog)) = true :=
  (rows_next (rows_next (rows_next none_ok IcolForms_0) IcolForms_8) IcolForms_16)

theorem IcolForms_body : hasBody Try.prog 3 = true := by kernel_rfl

theorem walk_IcolForms (a0 : Int) (w0 : (Lit.int .i64 a0).wf = true) (w : World) :
    Calls Try.prog 3 #[.int .i64 a0] w fun e w' => e = .returned (.bool true) ∧ Below w.heap.size w w' :=
  fit.formK IcolForms_awake IcolForms_body 23 (by decide) IcolForms_rows a0 w

end Go.Proofs.Ythlfcjpjhajaaaa
