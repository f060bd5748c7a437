/-
  Rows of ModlForms, run.
-/
import Derived.Test.YthlfcjpjhajaaaaGreatCanonW
import Derived.Test.YthlfcjpjhajaaaaGreatProg
import Derived.KernelRfl
namespace Go.Proofs.YthlfcjpjhajaaaaGreat
open Canon

theorem ModlForms_8 : rowsBy (Canon.envK Tryz.prog 12) 60 3 (rowOf 14) 8 2 = true := by kernel_rfl
theorem ModlForms_10 : rowsBy (Canon.envK Tryz.prog 12) 60 3 (rowOf 14) 10 2 = true := by kernel_rfl

end Go.Proofs.YthlfcjpjhajaaaaGreat
