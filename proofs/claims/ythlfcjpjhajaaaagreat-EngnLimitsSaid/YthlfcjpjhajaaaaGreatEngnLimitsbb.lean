/-
  Rows of EngnLimits, run.
-/
import Derived.Test.YthlfcjpjhajaaaaGreatCanonY
import Derived.Test.YthlfcjpjhajaaaaGreatEngnLimitsm
import Derived.Test.YthlfcjpjhajaaaaGreatProg
import Derived.KernelRfl
namespace Go.Proofs.YthlfcjpjhajaaaaGreat
open Canon

theorem EngnLimits_55 : rowsY (Canon.envK Tryz.prog 43) 60 8 mk_EngnLimits 55 1 = true := by kernel_rfl
theorem EngnLimits_56 : rowsY (Canon.envK Tryz.prog 43) 60 8 mk_EngnLimits 56 1 = true := by kernel_rfl
theorem EngnLimits_57 : rowsY (Canon.envK Tryz.prog 43) 60 8 mk_EngnLimits 57 1 = true := by kernel_rfl
theorem EngnLimits_58 : rowsY (Canon.envK Tryz.prog 43) 60 8 mk_EngnLimits 58 1 = true := by kernel_rfl
theorem EngnLimits_59 : rowsY (Canon.envK Tryz.prog 43) 60 8 mk_EngnLimits 59 1 = true := by kernel_rfl

end Go.Proofs.YthlfcjpjhajaaaaGreat
