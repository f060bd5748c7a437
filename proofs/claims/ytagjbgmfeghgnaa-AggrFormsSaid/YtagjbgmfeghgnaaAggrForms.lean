/-
  The walk of AggrForms.
-/
import Derived.Test.YtagjbgmfeghgnaaFit
import Derived.Test.YtagjbgmfeghgnaaAggrFormsa
import Derived.Test.YtagjbgmfeghgnaaAggrFormsb
namespace Go.Proofs.Ytagjbgmfeghgnaa
set_option linter.unusedVariables false
open Canon Go.RowKit

theorem AggrForms_rows : ∀ k, k < 10 → RowOK Try.prog 60 14 10 k :=
  (next_ok (next_ok (next_ok (next_ok (next_ok (next_ok (next_ok (next_ok (next_ok (next_ok none_ok AggrForms_0) AggrForms_1) AggrForms_2) AggrForms_3) AggrForms_4) AggrForms_5) AggrForms_6) AggrForms_7) AggrForms_8) AggrForms_9)

theorem AggrForms_body : hasBody Try.prog 14 = true := by kernel_rfl

theorem walk_AggrForms (a0 : Int) (w0 : (Lit.int .i64 a0).wf = true) (w : World) :
    Calls Try.prog 14 #[.int .i64 a0] w fun e w' => e = .returned (.bool true) ∧ Below w.heap.size w w' :=
  fit.form AggrForms_body 10 (by decide) AggrForms_rows a0 w

end Go.Proofs.Ytagjbgmfeghgnaa
