/-
  The walk of ZoneForms.
-/
import Derived.Test.YtagjbgmfeghgnaaFit
import Derived.Test.YtagjbgmfeghgnaaZoneFormsa
import Derived.Test.YtagjbgmfeghgnaaZoneFormsb
namespace Go.Proofs.Ytagjbgmfeghgnaa
set_option linter.unusedVariables false
open Canon Go.RowKit

theorem ZoneForms_rows : ∀ k, k < 13 → RowOK Try.prog 60 11 13 k :=
  (next_ok (next_ok (next_ok (next_ok (next_ok (next_ok (next_ok (next_ok (next_ok (next_ok (next_ok (next_ok (next_ok none_ok ZoneForms_0) ZoneForms_1) ZoneForms_2) ZoneForms_3) ZoneForms_4) ZoneForms_5) ZoneForms_6) ZoneForms_7) ZoneForms_8) ZoneForms_9) ZoneForms_10) ZoneForms_11) ZoneForms_12)

theorem ZoneForms_body : hasBody Try.prog 11 = true := by kernel_rfl

theorem walk_ZoneForms (a0 : Int) (w0 : (Lit.int .i64 a0).wf = true) (w : World) :
    Calls Try.prog 11 #[.int .i64 a0] w fun e w' => e = .returned (.bool true) ∧ Below w.heap.size w w' :=
  fit.form ZoneForms_body 13 (by decide) ZoneForms_rows a0 w

end Go.Proofs.Ytagjbgmfeghgnaa
