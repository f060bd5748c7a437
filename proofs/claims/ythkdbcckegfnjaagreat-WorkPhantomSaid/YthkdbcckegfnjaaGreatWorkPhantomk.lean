/-
  The awake of WorkPhantom, run.
-/
import Derived.Test.YthkdbcckegfnjaaGreatCanonY
import Derived.Test.YthkdbcckegfnjaaGreatFit
namespace Go.Proofs.YthkdbcckegfnjaaGreat
open Canon

theorem WorkPhantom_awake : Plain Tryz.prog 11 := fit.plainY (d := 60) (by kernel_rfl) (by kernel_rfl)

end Go.Proofs.YthkdbcckegfnjaaGreat
