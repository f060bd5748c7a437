/-
  Rows of WorkHangs, run.
-/
import Derived.Test.YthlfcjpjhajaaaaGreatCanonY
import Derived.Test.YthlfcjpjhajaaaaGreatWorkHangsm
import Derived.Test.YthlfcjpjhajaaaaGreatProg
import Derived.KernelRfl
namespace Go.Proofs.YthlfcjpjhajaaaaGreat
open Canon

theorem WorkHangs_0 : rowsY (Canon.envK Tryz.prog 32) 60 5 mk_WorkHangs 0 1 = true := by kernel_rfl
theorem WorkHangs_1 : rowsY (Canon.envK Tryz.prog 32) 60 5 mk_WorkHangs 1 1 = true := by kernel_rfl

end Go.Proofs.YthlfcjpjhajaaaaGreat
