/-
  The awake of ModlForms, run.
-/
import Derived.Test.YthlfcjpjhajaaaaGreatCanonW
import Derived.Test.YthlfcjpjhajaaaaGreatFit
namespace Go.Proofs.YthlfcjpjhajaaaaGreat
open Canon

theorem ModlForms_awake : Plain Tryz.prog 12 := fit.plainW (d := 60) (by kernel_rfl) (by kernel_rfl)

end Go.Proofs.YthlfcjpjhajaaaaGreat
