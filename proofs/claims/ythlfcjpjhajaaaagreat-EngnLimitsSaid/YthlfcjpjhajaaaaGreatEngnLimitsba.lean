/-
  Rows of EngnLimits, run.
-/
import Derived.Test.YthlfcjpjhajaaaaGreatCanonY
import Derived.Test.YthlfcjpjhajaaaaGreatEngnLimitsm
import Derived.Test.YthlfcjpjhajaaaaGreatProg
import Derived.KernelRfl
namespace Go.Proofs.YthlfcjpjhajaaaaGreat
open Canon

theorem EngnLimits_50 : rowsY (Canon.envK Tryz.prog 43) 60 8 mk_EngnLimits 50 1 = true := by kernel_rfl
theorem EngnLimits_51 : rowsY (Canon.envK Tryz.prog 43) 60 8 mk_EngnLimits 51 1 = true := by kernel_rfl
theorem EngnLimits_52 : rowsY (Canon.envK Tryz.prog 43) 60 8 mk_EngnLimits 52 1 = true := by kernel_rfl
theorem EngnLimits_53 : rowsY (Canon.envK Tryz.prog 43) 60 8 mk_EngnLimits 53 1 = true := by kernel_rfl
theorem EngnLimits_54 : rowsY (Canon.envK Tryz.prog 43) 60 8 mk_EngnLimits 54 1 = true := by kernel_rfl

end Go.Proofs.YthlfcjpjhajaaaaGreat
