/-
  Rows of EngnLimits, run.
-/
import Derived.Test.YthlfcjpjhajaaaaGreatCanonY
import Derived.Test.YthlfcjpjhajaaaaGreatEngnLimitsm
import Derived.Test.YthlfcjpjhajaaaaGreatProg
import Derived.KernelRfl
namespace Go.Proofs.YthlfcjpjhajaaaaGreat
open Canon

theorem EngnLimits_35 : rowsY (Canon.envK Tryz.prog 43) 60 8 mk_EngnLimits 35 1 = true := by kernel_rfl
theorem EngnLimits_36 : rowsY (Canon.envK Tryz.prog 43) 60 8 mk_EngnLimits 36 1 = true := by kernel_rfl
theorem EngnLimits_37 : rowsY (Canon.envK Tryz.prog 43) 60 8 mk_EngnLimits 37 1 = true := by kernel_rfl
theorem EngnLimits_38 : rowsY (Canon.envK Tryz.prog 43) 60 8 mk_EngnLimits 38 1 = true := by kernel_rfl
theorem EngnLimits_39 : rowsY (Canon.envK Tryz.prog 43) 60 8 mk_EngnLimits 39 1 = true := by kernel_rfl

end Go.Proofs.YthlfcjpjhajaaaaGreat
