/-
  The walk of StamForms.
-/
import Derived.Test.YtagjbgmfeghgnaaFit
import Derived.Test.YtagjbgmfeghgnaaStamFormsa
import Derived.Test.YtagjbgmfeghgnaaStamFormsb
import Derived.Test.YtagjbgmfeghgnaaStamFormsc
namespace Go.Proofs.Ytagjbgmfeghgnaa
set_option linter.unusedVariables false
open Canon Go.RowKit

theorem StamForms_rows : ∀ k, k < 19 → RowOK Try.prog 60 12 19 k :=
  (next_ok (next_ok (next_ok (next_ok (next_ok (next_ok (next_ok (next_ok (next_ok (next_ok (next_ok (next_ok (next_ok (next_ok (next_ok (next_ok (next_ok (next_ok (next_ok none_ok StamForms_0) StamForms_1) StamForms_2) StamForms_3) StamForms_4) StamForms_5) StamForms_6) StamForms_7) StamForms_8) StamForms_9) StamForms_10) StamForms_11) StamForms_12) StamForms_13) StamForms_14) StamForms_15) StamForms_16) StamForms_17) StamForms_18)

theorem StamForms_body : hasBody Try.prog 12 = true := by kernel_rfl

theorem walk_StamForms (a0 : Int) (w0 : (Lit.int .i64 a0).wf = true) (w : World) :
    Calls Try.prog 12 #[.int .i64 a0] w fun e w' => e = .returned (.bool true) ∧ Below w.heap.size w w' :=
  fit.form StamForms_body 19 (by decide) StamForms_rows a0 w

end Go.Proofs.Ytagjbgmfeghgnaa
