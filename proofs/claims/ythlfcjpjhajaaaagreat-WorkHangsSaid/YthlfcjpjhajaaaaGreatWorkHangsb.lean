/-
  Rows of WorkHangs, run.
-/
import Derived.Test.YthlfcjpjhajaaaaGreatCanonY
import Derived.Test.YthlfcjpjhajaaaaGreatWorkHangsm
import Derived.Test.YthlfcjpjhajaaaaGreatProg
import Derived.KernelRfl
namespace Go.Proofs.YthlfcjpjhajaaaaGreat
open Canon

theorem WorkHangs_2 : rowsY (Canon.envK Tryz.prog 32) 60 5 mk_WorkHangs 2 1 = true := by kernel_rfl
theorem WorkHangs_3 : rowsY (Canon.envK Tryz.prog 32) 60 5 mk_WorkHangs 3 1 = true := by kernel_rfl

end Go.Proofs.YthlfcjpjhajaaaaGreat
