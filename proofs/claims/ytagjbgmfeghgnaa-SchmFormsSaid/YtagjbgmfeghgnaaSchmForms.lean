/-
  The walk of SchmForms.
-/
import Derived.Test.YtagjbgmfeghgnaaFit
import Derived.Test.YtagjbgmfeghgnaaSchmFormsa
import Derived.Test.YtagjbgmfeghgnaaSchmFormsb
namespace Go.Proofs.Ytagjbgmfeghgnaa
set_option linter.unusedVariables false
open Canon Go.RowKit

theorem SchmForms_rows : ∀ k, k < 15 → RowOK Try.prog 60 8 15 k :=
  (next_ok (next_ok (next_ok (next_ok (next_ok (next_ok (next_ok (next_ok (next_ok (next_ok (next_ok (next_ok (next_ok (next_ok (next_ok none_ok SchmForms_0) SchmForms_1) SchmForms_2) SchmForms_3) SchmForms_4) SchmForms_5) SchmForms_6) SchmForms_7) SchmForms_8) SchmForms_9) SchmForms_10) SchmForms_11) SchmForms_12) SchmForms_13) SchmForms_14)

theorem SchmForms_body : hasBody Try.prog 8 = true := by kernel_rfl

theorem walk_SchmForms (a0 : Int) (w0 : (Lit.int .i64 a0).wf = true) (w : World) :
    Calls Try.prog 8 #[.int .i64 a0] w fun e w' => e = .returned (.bool true) ∧ Below w.heap.size w w' :=
  fit.form SchmForms_body 15 (by decide) SchmForms_rows a0 w

end Go.Proofs.Ytagjbgmfeghgnaa
