/-
  Rows of EngnLimits, run.
-/
import Derived.Test.YthlfcjpjhajaaaaGreatCanonY
import Derived.Test.YthlfcjpjhajaaaaGreatEngnLimitsm
import Derived.Test.YthlfcjpjhajaaaaGreatProg
import Derived.KernelRfl
namespace Go.Proofs.YthlfcjpjhajaaaaGreat
open Canon

theorem EngnLimits_40 : rowsY (Canon.envK Tryz.prog 43) 60 8 mk_EngnLimits 40 1 = true := by kernel_rfl
theorem EngnLimits_41 : rowsY (Canon.envK Tryz.prog 43) 60 8 mk_EngnLimits 41 1 = true := by kernel_rfl
theorem EngnLimits_42 : rowsY (Canon.envK Tryz.prog 43) 60 8 mk_EngnLimits 42 1 = true := by kernel_rfl
theorem EngnLimits_43 : rowsY (Canon.envK Tryz.prog 43) 60 8 mk_EngnLimits 43 1 = true := by kernel_rfl
theorem EngnLimits_44 : rowsY (Canon.envK Tryz.prog 43) 60 8 mk_EngnLimits 44 1 = true := by kernel_rfl

end Go.Proofs.YthlfcjpjhajaaaaGreat
