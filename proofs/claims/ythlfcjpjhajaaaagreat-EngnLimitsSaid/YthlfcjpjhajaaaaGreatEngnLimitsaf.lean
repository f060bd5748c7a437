/-
  Rows of EngnLimits, run.
-/
import Derived.Test.YthlfcjpjhajaaaaGreatCanonY
import Derived.Test.YthlfcjpjhajaaaaGreatEngnLimitsm
import Derived.Test.YthlfcjpjhajaaaaGreatProg
import Derived.KernelRfl
namespace Go.Proofs.YthlfcjpjhajaaaaGreat
open Canon

theorem EngnLimits_25 : rowsY (Canon.envK Tryz.prog 43) 60 8 mk_EngnLimits 25 1 = true := by kernel_rfl
theorem EngnLimits_26 : rowsY (Canon.envK Tryz.prog 43) 60 8 mk_EngnLimits 26 1 = true := by kernel_rfl
theorem EngnLimits_27 : rowsY (Canon.envK Tryz.prog 43) 60 8 mk_EngnLimits 27 1 = true := by kernel_rfl
theorem EngnLimits_28 : rowsY (Canon.envK Tryz.prog 43) 60 8 mk_EngnLimits 28 1 = true := by kernel_rfl
theorem EngnLimits_29 : rowsY (Canon.envK Tryz.prog 43) 60 8 mk_EngnLimits 29 1 = true := by kernel_rfl

end Go.Proofs.YthlfcjpjhajaaaaGreat
