/-
  Rows of EngnLimits, run.
-/
import Derived.Test.YthlfcjpjhajaaaaGreatCanonY
import Derived.Test.YthlfcjpjhajaaaaGreatEngnLimitsm
import Derived.Test.YthlfcjpjhajaaaaGreatProg
import Derived.KernelRfl
namespace Go.Proofs.YthlfcjpjhajaaaaGreat
open Canon

theorem EngnLimits_0 : rowsY (Canon.envK Tryz.prog 43) 60 8 mk_EngnLimits 0 1 = true := by kernel_rfl
theorem EngnLimits_1 : rowsY (Canon.envK Tryz.prog 43) 60 8 mk_EngnLimits 1 1 = true := by kernel_rfl
theorem EngnLimits_2 : rowsY (Canon.envK Tryz.prog 43) 60 8 mk_EngnLimits 2 1 = true := by kernel_rfl
theorem EngnLimits_3 : rowsY (Canon.envK Tryz.prog 43) 60 8 mk_EngnLimits 3 1 = true := by kernel_rfl
theorem EngnLimits_4 : rowsY (Canon.envK Tryz.prog 43) 60 8 mk_EngnLimits 4 1 = true := by kernel_rfl

end Go.Proofs.YthlfcjpjhajaaaaGreat
