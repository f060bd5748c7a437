/-
  Rows of ModlForms, run.
-/
import Derived.Test.YthlfcjpjhajaaaaGreatCanonW
import Derived.Test.YthlfcjpjhajaaaaGreatProg
import Derived.KernelRfl
namespace Go.Proofs.YthlfcjpjhajaaaaGreat
open Canon

theorem ModlForms_4 : rowsBy (Canon.envK Tryz.prog 12) 60 3 (rowOf 14) 4 2 = true := by kernel_rfl
theorem ModlForms_6 : rowsBy (Canon.envK Tryz.prog 12) 60 3 (rowOf 14) 6 2 = true := by kernel_rfl

end Go.Proofs.YthlfcjpjhajaaaaGreat
