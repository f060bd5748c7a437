/-
  The walk of ModlForms.
-/
import Derived.Test.YthlfcjpjhajaaaaGreatFit
import Derived.Test.YthlfcjpjhajaaaaGreatModlFormsk
import Derived.Test.YthlfcjpjhajaaaaGreatModlFormsa
import Derived.Test.YthlfcjpjhajaaaaGreatModlFormsb
import Derived.Test.YthlfcjpjhajaaaaGreatModlFormsc
import Derived.Test.YthlfcjpjhajaaaaGreatModlFormsd
namespace Go.Proofs.YthlfcjpjhajaaaaGreat
set_option linter.unusedVariables false
open Canon Go.RowKit

theorem ModlForms_rows : ∀ k, k < 14 → isTrue (callN (Canon.envK Tryz.prog 12) 60 3 ((rowOf 14) k) (Canon.start Tryz.prog)) = true :=
  (rows_next (rows_next (rows_next (rows_next (rows_next (rows_next (rows_next none_ok ModlForms_0) ModlForms_2) ModlForms_4) ModlForms_6) ModlForms_8) ModlForms_10) ModlForms_12)

theorem ModlForms_body : hasBody Tryz.prog 3 = true := by kernel_rfl

theorem walk_ModlForms (a0 : Int) (w0 : (Lit.int .i64 a0).wf = true) (w : World) :
    Calls Tryz.prog 3 #[.int .i64 a0] w fun e w' => e = .returned (.bool true) ∧ Below w.heap.size w w' :=
  fit.formK ModlForms_awake ModlForms_body 14 (by decide) ModlForms_rows a0 w

end Go.Proofs.YthlfcjpjhajaaaaGreat
