/-
  Rows of EngnLimits, run.
-/
import Derived.Test.YthlfcjpjhajaaaaGreatCanonY
import Derived.Test.YthlfcjpjhajaaaaGreatEngnLimitsm
import Derived.Test.YthlfcjpjhajaaaaGreatProg
import Derived.KernelRfl
namespace Go.Proofs.YthlfcjpjhajaaaaGreat
open Canon

theorem EngnLimits_20 : rowsY (Canon.envK Tryz.prog 43) 60 8 mk_EngnLimits 20 1 = true := by kernel_rfl
theorem EngnLimits_21 : rowsY (Canon.envK Tryz.prog 43) 60 8 mk_EngnLimits 21 1 = true := by kernel_rfl
theorem EngnLimits_22 : rowsY (Canon.envK Tryz.prog 43) 60 8 mk_EngnLimits 22 1 = true := by kernel_rfl
theorem EngnLimits_23 : rowsY (Canon.envK Tryz.prog 43) 60 8 mk_EngnLimits 23 1 = true := by kernel_rfl
theorem EngnLimits_24 : rowsY (Canon.envK Tryz.prog 43) 60 8 mk_EngnLimits 24 1 = true := by kernel_rfl

end Go.Proofs.YthlfcjpjhajaaaaGreat
