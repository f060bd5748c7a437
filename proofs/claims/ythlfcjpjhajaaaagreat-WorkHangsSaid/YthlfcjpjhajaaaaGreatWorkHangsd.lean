/-
  Rows of WorkHangs, run.
-/
import Derived.Test.YthlfcjpjhajaaaaGreatCanonY
import Derived.Test.YthlfcjpjhajaaaaGreatWorkHangsm
import Derived.Test.YthlfcjpjhajaaaaGreatProg
import Derived.KernelRfl
namespace Go.Proofs.YthlfcjpjhajaaaaGreat
open Canon

theorem WorkHangs_6 : rowsY (Canon.envK Tryz.prog 32) 60 5 mk_WorkHangs 6 1 = true := by kernel_rfl
theorem WorkHangs_7 : rowsY (Canon.envK Tryz.prog 32) 60 5 mk_WorkHangs 7 1 = true := by kernel_rfl

end Go.Proofs.YthlfcjpjhajaaaaGreat
