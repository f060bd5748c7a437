/-
  Rows of WorkFull, run.
-/
import Derived.Test.YthkdbcckegfnjaaGreatCanonY
import Derived.Test.YthkdbcckegfnjaaGreatWorkFullm
import Derived.Test.YthkdbcckegfnjaaGreatProg
import Derived.KernelRfl
namespace Go.Proofs.YthkdbcckegfnjaaGreat
open Canon

theorem WorkFull_36 : rowsY (Canon.envK Tryz.prog 11) 60 3 mk_WorkFull 36 1 = true := by kernel_rfl
theorem WorkFull_37 : rowsY (Canon.envK Tryz.prog 11) 60 3 mk_WorkFull 37 1 = true := by kernel_rfl
theorem WorkFull_38 : rowsY (Canon.envK Tryz.prog 11) 60 3 mk_WorkFull 38 1 = true := by kernel_rfl

end Go.Proofs.YthkdbcckegfnjaaGreat
