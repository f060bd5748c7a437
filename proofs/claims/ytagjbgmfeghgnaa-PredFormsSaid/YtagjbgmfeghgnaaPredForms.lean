/-
  The walk of PredForms.
-/
import Derived.Test.YtagjbgmfeghgnaaFit
import Derived.Test.YtagjbgmfeghgnaaPredFormsa
import Derived.Test.YtagjbgmfeghgnaaPredFormsb
import Derived.Test.YtagjbgmfeghgnaaPredFormsc
namespace Go.Proofs.Ytagjbgmfeghgnaa
set_option linter.unusedVariables false
open Canon Go.RowKit

theorem PredForms_rows : ∀ k, k < 23 → RowOK Try.prog 60 9 23 k :=
  (next_ok (next_ok (next_ok (next_ok (next_ok (next_ok (next_ok (next_ok (next_ok (next_ok (next_ok (next_ok (next_ok (next_ok (next_ok (next_ok (next_ok (next_ok (next_ok (next_ok (next_ok (next_ok (next_ok none_ok PredForms_0) PredForms_1) PredForms_2) PredForms_3) PredForms_4) PredForms_5) PredForms_6) PredForms_7) PredForms_8) PredForms_9) PredForms_10) PredForms_11) PredForms_12) PredForms_13) PredForms_14) PredForms_15) PredForms_16) PredForms_17) PredForms_18) PredForms_19) PredForms_20) PredForms_21) PredForms_22)

theorem PredForms_body : hasBody Try.prog 9 = true := by kernel_rfl

theorem walk_PredForms (a0 : Int) (w0 : (Lit.int .i64 a0).wf = true) (w : World) :
    Calls Try.prog 9 #[.int .i64 a0] w fun e w' => e = .returned (.bool true) ∧ Below w.heap.size w w' :=
  fit.form PredForms_body 23 (by decide) PredForms_rows a0 w

end Go.Proofs.Ytagjbgmfeghgnaa
