/-
  Rows of EngnLimits, run.
-/
import Derived.Test.YthlfcjpjhajaaaaGreatCanonY
import Derived.Test.YthlfcjpjhajaaaaGreatEngnLimitsm
import Derived.Test.YthlfcjpjhajaaaaGreatProg
import Derived.KernelRfl
namespace Go.Proofs.YthlfcjpjhajaaaaGreat
open Canon

theorem EngnLimits_10 : rowsY (Canon.envK Tryz.prog 43) 60 8 mk_EngnLimits 10 1 = true := by kernel_rfl
theorem EngnLimits_11 : rowsY (Canon.envK Tryz.prog 43) 60 8 mk_EngnLimits 11 1 = true := by kernel_rfl
theorem EngnLimits_12 : rowsY (Canon.envK Tryz.prog 43) 60 8 mk_EngnLimits 12 1 = true := by kernel_rfl
theorem EngnLimits_13 : rowsY (Canon.envK Tryz.prog 43) 60 8 mk_EngnLimits 13 1 = true := by kernel_rfl
theorem EngnLimits_14 : rowsY (Canon.envK Tryz.prog 43) 60 8 mk_EngnLimits 14 1 = true := by kernel_rfl

end Go.Proofs.YthlfcjpjhajaaaaGreat
