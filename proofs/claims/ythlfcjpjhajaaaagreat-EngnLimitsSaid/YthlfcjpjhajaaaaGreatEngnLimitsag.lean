/-
  Rows of EngnLimits, run.
-/
import Derived.Test.YthlfcjpjhajaaaaGreatCanonY
import Derived.Test.YthlfcjpjhajaaaaGreatEngnLimitsm
import Derived.Test.YthlfcjpjhajaaaaGreatProg
import Derived.KernelRfl
namespace Go.Proofs.YthlfcjpjhajaaaaGreat
open Canon

theorem EngnLimits_30 : rowsY (Canon.envK Tryz.prog 43) 60 8 mk_EngnLimits 30 1 = true := by kernel_rfl
theorem EngnLimits_31 : rowsY (Canon.envK Tryz.prog 43) 60 8 mk_EngnLimits 31 1 = true := by kernel_rfl
theorem EngnLimits_32 : rowsY (Canon.envK Tryz.prog 43) 60 8 mk_EngnLimits 32 1 = true := by kernel_rfl
theorem EngnLimits_33 : rowsY (Canon.envK Tryz.prog 43) 60 8 mk_EngnLimits 33 1 = true := by kernel_rfl
theorem EngnLimits_34 : rowsY (Canon.envK Tryz.prog 43) 60 8 mk_EngnLimits 34 1 = true := by kernel_rfl

end Go.Proofs.YthlfcjpjhajaaaaGreat
