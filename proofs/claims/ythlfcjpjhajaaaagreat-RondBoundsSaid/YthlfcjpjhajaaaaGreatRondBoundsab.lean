/-
  Rows of RondBounds, run.
-/
import Derived.Test.YthlfcjpjhajaaaaGreatCanonY
import Derived.Test.YthlfcjpjhajaaaaGreatRondBoundsm
import Derived.Test.YthlfcjpjhajaaaaGreatProg
import Derived.KernelRfl
namespace Go.Proofs.YthlfcjpjhajaaaaGreat
open Canon

theorem RondBounds_2 : rowsY (Canon.envK Tryz.prog 48) 60 9 mk_RondBounds 2 1 = true := by kernel_rfl
theorem RondBounds_3 : rowsY (Canon.envK Tryz.prog 48) 60 9 mk_RondBounds 3 1 = true := by kernel_rfl

end Go.Proofs.YthlfcjpjhajaaaaGreat
