/-
  Rows of RondBounds, run.
-/
import Derived.Test.YthlfcjpjhajaaaaGreatCanonY
import Derived.Test.YthlfcjpjhajaaaaGreatRondBoundsm
import Derived.Test.YthlfcjpjhajaaaaGreatProg
import Derived.KernelRfl
namespace Go.Proofs.YthlfcjpjhajaaaaGreat
open Canon

theorem RondBounds_4 : rowsY (Canon.envK Tryz.prog 48) 60 9 mk_RondBounds 4 1 = true := by kernel_rfl
theorem RondBounds_5 : rowsY (Canon.envK Tryz.prog 48) 60 9 mk_RondBounds 5 1 = true := by kernel_rfl

end Go.Proofs.YthlfcjpjhajaaaaGreat
