/-
  The walk of ExprForms.
-/
import Derived.Test.YthlfcjpjhajaaaaFit
import Derived.Test.YthlfcjpjhajaaaaExprFormsk
import Derived.Test.YthlfcjpjhajaaaaExprFormsa
import Derived.Test.YthlfcjpjhajaaaaExprFormsb
import Derived.Test.YthlfcjpjhajaaaaExprFormsc
import Derived.Test.YthlfcjpjhajaaaaExprFormsd
import Derived.Test.YthlfcjpjhajaaaaExprFormse
import Derived.Test.YthlfcjpjhajaaaaExprFormsf
import Derived.Test.YthlfcjpjhajaaaaExprFormsg
namespace Go.Proofs.Ythlfcjpjhajaaaa
set_option linter.unusedVariables false
open Canon Go.RowKit

theorem ExprForms_rows : ∀ k, k < 35 → isTrue (callN (Canon.envK Try.prog 20) 60 5 ((rowOf 35) k) (Canon.start Try.prog)) = true :=
  (rows_next (rows_next (rows_next (rows_next (rows_next (rows_next (rows_next none_ok ExprForms_0) ExprForms_5) ExprForms_10) ExprForms_15) ExprForms_20) ExprForms_25) ExprForms_30)

theorem ExprForms_body : hasBody Try.prog 5 = true := by kernel_rfl

theorem walk_ExprForms (a0 : Int) (w0 : (Lit.int .i64 a0).wf = true) (w : World) :
    Calls Try.prog 5 #[.int .i64 a0] w fun e w' => e = .returned (.bool true) ∧ Below w.heap.size w w' :=
  fit.formK ExprForms_awake ExprForms_body 35 (by decide) ExprForms_rows a0 w

end Go.Proofs.Ythlfcjpjhajaaaa
