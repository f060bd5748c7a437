/-
  Rows of WorkFull, run.
-/
import Derived.Test.YthkdbcckegfnjaaGreatCanonY
import Derived.Test.YthkdbcckegfnjaaGreatWorkFullm
import Derived.Test.YthkdbcckegfnjaaGreatProg
import Derived.KernelRfl
namespace Go.Proofs.YthkdbcckegfnjaaGreat
open Canon

theorem WorkFull_21 : rowsY (Canon.envK Tryz.prog 11) 60 3 mk_WorkFull 21 1 = true := by kernel_rfl
theorem WorkFull_22 : rowsY (Canon.envK Tryz.prog 11) 60 3 mk_WorkFull 22 1 = true := by kernel_rfl
theorem WorkFull_23 : rowsY (Canon.envK Tryz.prog 11) 60 3 mk_WorkFull 23 1 = true := by kernel_rfl

end Go.Proofs.YthkdbcckegfnjaaGreat
