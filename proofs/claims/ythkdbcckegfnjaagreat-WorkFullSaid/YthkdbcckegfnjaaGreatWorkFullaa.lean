/-
  Rows of WorkFull, run.
-/
import Derived.Test.YthkdbcckegfnjaaGreatCanonY
import Derived.Test.YthkdbcckegfnjaaGreatWorkFullm
import Derived.Test.YthkdbcckegfnjaaGreatProg
import Derived.KernelRfl
namespace Go.Proofs.YthkdbcckegfnjaaGreat
open Canon

theorem WorkFull_0 : rowsY (Canon.envK Tryz.prog 11) 60 3 mk_WorkFull 0 1 = true := by kernel_rfl
theorem WorkFull_1 : rowsY (Canon.envK Tryz.prog 11) 60 3 mk_WorkFull 1 1 = true := by kernel_rfl
theorem WorkFull_2 : rowsY (Canon.envK Tryz.prog 11) 60 3 mk_WorkFull 2 1 = true := by kernel_rfl

end Go.Proofs.YthkdbcckegfnjaaGreat
