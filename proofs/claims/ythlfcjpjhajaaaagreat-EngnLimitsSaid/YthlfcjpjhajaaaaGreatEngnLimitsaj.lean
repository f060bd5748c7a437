/-
  Rows of EngnLimits, run.
-/
import Derived.Test.YthlfcjpjhajaaaaGreatCanonY
import Derived.Test.YthlfcjpjhajaaaaGreatEngnLimitsm
import Derived.Test.YthlfcjpjhajaaaaGreatProg
import Derived.KernelRfl
namespace Go.Proofs.YthlfcjpjhajaaaaGreat
open Canon

theorem EngnLimits_45 : rowsY (Canon.envK Tryz.prog 43) 60 8 mk_EngnLimits 45 1 = true := by kernel_rfl
theorem EngnLimits_46 : rowsY (Canon.envK Tryz.prog 43) 60 8 mk_EngnLimits 46 1 = true := by kernel_rfl
theorem EngnLimits_47 : rowsY (Canon.envK Tryz.prog 43) 60 8 mk_EngnLimits 47 1 = true := by kernel_rfl
theorem EngnLimits_48 : rowsY (Canon.envK Tryz.prog 43) 60 8 mk_EngnLimits 48 1 = true := by kernel_rfl
theorem EngnLimits_49 : rowsY (Canon.envK Tryz.prog 43) 60 8 mk_EngnLimits 49 1 = true := by kernel_rfl

end Go.Proofs.YthlfcjpjhajaaaaGreat
