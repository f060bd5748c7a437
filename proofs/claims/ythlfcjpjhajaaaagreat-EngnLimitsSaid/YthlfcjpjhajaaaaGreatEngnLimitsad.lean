/-
  Rows of EngnLimits, run.
-/
import Derived.Test.YthlfcjpjhajaaaaGreatCanonY
import Derived.Test.YthlfcjpjhajaaaaGreatEngnLimitsm
import Derived.Test.YthlfcjpjhajaaaaGreatProg
import Derived.KernelRfl
namespace Go.Proofs.YthlfcjpjhajaaaaGreat
open Canon

theorem EngnLimits_15 : rowsY (Canon.envK Tryz.prog 43) 60 8 mk_EngnLimits 15 1 = true := by kernel_rfl
theorem EngnLimits_16 : rowsY (Canon.envK Tryz.prog 43) 60 8 mk_EngnLimits 16 1 = true := by kernel_rfl
theorem EngnLimits_17 : rowsY (Canon.envK Tryz.prog 43) 60 8 mk_EngnLimits 17 1 = true := by kernel_rfl
theorem EngnLimits_18 : rowsY (Canon.envK Tryz.prog 43) 60 8 mk_EngnLimits 18 1 = true := by kernel_rfl
theorem EngnLimits_19 : rowsY (Canon.envK Tryz.prog 43) 60 8 mk_EngnLimits 19 1 = true := by kernel_rfl

end Go.Proofs.YthlfcjpjhajaaaaGreat
