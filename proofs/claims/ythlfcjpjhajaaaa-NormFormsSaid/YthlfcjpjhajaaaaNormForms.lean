/-
  The walk of NormForms.
-/
import Derived.Test.YthlfcjpjhajaaaaFit
import Derived.Test.YthlfcjpjhajaaaaNormFormsk
import Derived.Test.YthlfcjpjhajaaaaNormFormsa
import Derived.Test.YthlfcjpjhajaaaaNormFormsb
import Derived.Test.YthlfcjpjhajaaaaNormFormsc
import Derived.Test.YthlfcjpjhajaaaaNormFormsd
import Derived.Test.YthlfcjpjhajaaaaNormFormse
import Derived.Test.YthlfcjpjhajaaaaNormFormsf
import Derived.Test.YthlfcjpjhajaaaaNormFormsg
import Derived.Test.YthlfcjpjhajaaaaNormFormsh
import Derived.Test.YthlfcjpjhajaaaaNormFormsi
namespace Go.Proofs.Ythlfcjpjhajaaaa
set_option linter.unusedVariables false
open Canon Go.RowKit

theorem NormForms_rows : ∀ k, k < 18 → isTrue (callN (Canon.envK Try.prog 15) 60 4 ((rowOf 18) k) (Canon.start Try.prog)) = true :=
  (rows_next (rows_next (rows_next (rows_next (rows_next (rows_next (rows_next (rows_next (rows_next none_ok NormForms_0) NormForms_2) NormForms_4) NormForms_6) NormForms_8) NormForms_10) NormForms_12) NormForms_14) NormForms_16)

theorem NormForms_body : hasBody Try.prog 4 = true := by kernel_rfl

theorem walk_NormForms (a0 : Int) (w0 : (Lit.int .i64 a0).wf = true) (w : World) :
    Calls Try.prog 4 #[.int .i64 a0] w fun e w' => e = .returned (.bool true) ∧ Below w.heap.size w w' :=
  fit.formK NormForms_awake NormForms_body 18 (by decide) NormForms_rows a0 w

end Go.Proofs.Ythlfcjpjhajaaaa
