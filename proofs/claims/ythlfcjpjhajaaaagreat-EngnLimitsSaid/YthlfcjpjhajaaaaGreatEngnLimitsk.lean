/-
  The awake of EngnLimits, run.
-/
import Derived.Test.YthlfcjpjhajaaaaGreatCanonY
import Derived.Test.YthlfcjpjhajaaaaGreatFit
namespace Go.Proofs.YthlfcjpjhajaaaaGreat
open Canon

theorem EngnLimits_awake : Plain Tryz.prog 43 := fit.plainY (d := 60) (by kernel_rfl) (by kernel_rfl)

end Go.Proofs.YthlfcjpjhajaaaaGreat
