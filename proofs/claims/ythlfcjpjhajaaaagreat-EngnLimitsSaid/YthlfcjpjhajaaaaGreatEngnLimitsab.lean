/-
  Rows of EngnLimits, run.
-/
import Derived.Test.YthlfcjpjhajaaaaGreatCanonY
import Derived.Test.YthlfcjpjhajaaaaGreatEngnLimitsm
import Derived.Test.YthlfcjpjhajaaaaGreatProg
import Derived.KernelRfl
namespace Go.Proofs.YthlfcjpjhajaaaaGreat
open Canon

theorem EngnLimits_5 : rowsY (Canon.envK Tryz.prog 43) 60 8 mk_EngnLimits 5 1 = true := by kernel_rfl
theorem EngnLimits_6 : rowsY (Canon.envK Tryz.prog 43) 60 8 mk_EngnLimits 6 1 = true := by kernel_rfl
theorem EngnLimits_7 : rowsY (Canon.envK Tryz.prog 43) 60 8 mk_EngnLimits 7 1 = true := by kernel_rfl
theorem EngnLimits_8 : rowsY (Canon.envK Tryz.prog 43) 60 8 mk_EngnLimits 8 1 = true := by kernel_rfl
theorem EngnLimits_9 : rowsY (Canon.envK Tryz.prog 43) 60 8 mk_EngnLimits 9 1 = true := by kernel_rfl

end Go.Proofs.YthlfcjpjhajaaaaGreat
