/-
  The walk of NullForms.
-/
import Derived.Test.YtagjbgmfeghgnaaFit
import Derived.Test.YtagjbgmfeghgnaaNullFormsa
import Derived.Test.YtagjbgmfeghgnaaNullFormsb
namespace Go.Proofs.Ytagjbgmfeghgnaa
set_option linter.unusedVariables false
open Canon Go.RowKit

theorem NullForms_rows : ∀ k, k < 14 → RowOK Try.prog 60 5 14 k :=
  (next_ok (next_ok (next_ok (next_ok (next_ok (next_ok (next_ok (next_ok (next_ok (next_ok (next_ok (next_ok (next_ok (next_ok none_ok NullForms_0) NullForms_1) NullForms_2) NullForms_3) NullForms_4) NullForms_5) NullForms_6) NullForms_7) NullForms_8) NullForms_9) NullForms_10) NullForms_11) NullForms_12) NullForms_13)

theorem NullForms_body : hasBody Try.prog 5 = true := by kernel_rfl

theorem walk_NullForms (a0 : Int) (w0 : (Lit.int .i64 a0).wf = true) (w : World) :
    Calls Try.prog 5 #[.int .i64 a0] w fun e w' => e = .returned (.bool true) ∧ Below w.heap.size w w' :=
  fit.form NullForms_body 14 (by decide) NullForms_rows a0 w

end Go.Proofs.Ytagjbgmfeghgnaa
