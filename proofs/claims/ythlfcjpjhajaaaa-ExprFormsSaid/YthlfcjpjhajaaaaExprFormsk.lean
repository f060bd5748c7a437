/-
  The awake of ExprForms, run.
-/
import Derived.Test.YthlfcjpjhajaaaaCanonW
import Derived.Test.YthlfcjpjhajaaaaFit
namespace Go.Proofs.Ythlfcjpjhajaaaa
open Canon

theorem ExprForms_awake : Plain Try.prog 20 := fit.plainW (d := 60) (by kernel_rfl) (by kernel_rfl)

end Go.Proofs.Ythlfcjpjhajaaaa
