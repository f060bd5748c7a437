/-
  The walk of CodeForms.
-/
import Derived.Test.YtagjbgmfeghgnaaFit
import Derived.Test.YtagjbgmfeghgnaaCodeFormsa
import Derived.Test.YtagjbgmfeghgnaaCodeFormsb
namespace Go.Proofs.Ytagjbgmfeghgnaa
set_option linter.unusedVariables false
open Canon Go.RowKit

theorem CodeForms_rows : ∀ k, k < 12 → RowOK Try.prog 60 4 12 k :=
  (next_ok (next_ok (next_ok (next_ok (next_ok (next_ok (next_ok (next_ok (next_ok (next_ok (next_ok (next_ok none_ok CodeForms_0) CodeForms_1) CodeForms_2) CodeForms_3) CodeForms_4) CodeForms_5) CodeForms_6) CodeForms_7) CodeForms_8) CodeForms_9) CodeForms_10) CodeForms_11)

theorem CodeForms_body : hasBody Try.prog 4 = true := by kernel_rfl

theorem walk_CodeForms (a0 : Int) (w0 : (Lit.int .i64 a0).wf = true) (w : World) :
    Calls Try.prog 4 #[.int .i64 a0] w fun e w' => e = .returned (.bool true) ∧ Below w.heap.size w w' :=
  fit.form CodeForms_body 12 (by decide) CodeForms_rows a0 w

end Go.Proofs.Ytagjbgmfeghgnaa
