/-
  The walk of BitpForms.
-/
import Derived.Test.YtagjbgmfeghgnaaFit
import Derived.Test.YtagjbgmfeghgnaaBitpFormsa
namespace Go.Proofs.Ytagjbgmfeghgnaa
set_option linter.unusedVariables false
open Canon Go.RowKit

theorem BitpForms_rows : ∀ k, k < 12 → RowOK Try.prog 60 3 12 k :=
  (next_ok (next_ok (next_ok (next_ok (next_ok (next_ok (next_ok (next_ok (next_ok (next_ok (next_ok (next_ok none_ok BitpForms_0) BitpForms_1) BitpForms_2) BitpForms_3) BitpForms_4) BitpForms_5) BitpForms_6) BitpForms_7) BitpForms_8) BitpForms_9) BitpForms_10) BitpForms_11)

theorem walk_BitpForms (a0 : Int) (w0 : (Lit.int .i64 a0).wf = true) (w : World) :
    Calls Try.prog 3 #[.int .i64 a0] w fun e w' => e = .returned (.bool true) ∧ Below w.heap.size w w' :=
  fit.form 12 (by decide) BitpForms_rows a0 w

end Go.Proofs.Ytagjbgmfeghgnaa
