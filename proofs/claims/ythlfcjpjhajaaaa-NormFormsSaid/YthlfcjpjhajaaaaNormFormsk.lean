/-
  The awake of NormForms, run.
-/
import Derived.Test.YthlfcjpjhajaaaaCanonW
import Derived.Test.YthlfcjpjhajaaaaFit
namespace Go.Proofs.Ythlfcjpjhajaaaa
open Canon

theorem NormForms_awake : Plain Try.prog 15 := fit.plainW (d := 60) (by kernel_rfl) (by kernel_rfl)

end Go.Proofs.Ythlfcjpjhajaaaa
