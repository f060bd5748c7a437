/-
  The walk of BcolForms.
-/
import Derived.Test.YtagjbgmfeghgnaaFit
import Derived.Test.YtagjbgmfeghgnaaBcolFormsa
import Derived.Test.YtagjbgmfeghgnaaBcolFormsb
import Derived.Test.YtagjbgmfeghgnaaBcolFormsc
namespace Go.Proofs.Ytagjbgmfeghgnaa
set_option linter.unusedVariables false
open Canon Go.RowKit

theorem BcolForms_rows : ∀ k, k < 17 → RowOK Try.prog 60 7 17 k :=
  (next_ok (next_ok (next_ok (next_ok (next_ok (next_ok (next_ok (next_ok (next_ok (next_ok (next_ok (next_ok (next_ok (next_ok (next_ok (next_ok (next_ok none_ok BcolForms_0) BcolForms_1) BcolForms_2) BcolForms_3) BcolForms_4) BcolForms_5) BcolForms_6) BcolForms_7) BcolForms_8) BcolForms_9) BcolForms_10) BcolForms_11) BcolForms_12) BcolForms_13) BcolForms_14) BcolForms_15) BcolForms_16)

theorem BcolForms_body : hasBody Try.prog 7 = true := by kernel_rfl

theorem walk_BcolForms (a0 : Int) (w0 : (Lit.int .i64 a0).wf = true) (w : World) :
    Calls Try.prog 7 #[.int .i64 a0] w fun e w' => e = .returned (.bool true) ∧ Below w.heap.size w w' :=
  fit.form BcolForms_body 17 (by decide) BcolForms_rows a0 w

end Go.Proofs.Ytagjbgmfeghgnaa
