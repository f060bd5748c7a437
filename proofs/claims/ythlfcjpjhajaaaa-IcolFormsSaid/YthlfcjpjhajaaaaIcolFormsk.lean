/-
  The awake of IcolForms, run.
-/
import Derived.Test.YthlfcjpjhajaaaaCanonW
import Derived.Test.YthlfcjpjhajaaaaFit
namespace Go.Proofs.Ythlfcjpjhajaaaa
open Canon

theorem IcolForms_awake : Plain Try.prog 9 := fit.plainW (d := 60) (by kernel_rfl) (by kernel_rfl)

end Go.Proofs.Ythlfcjpjhajaaaa
