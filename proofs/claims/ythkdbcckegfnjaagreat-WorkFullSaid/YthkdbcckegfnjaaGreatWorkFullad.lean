/-
  Rows of WorkFull, run.
-/
import Derived.Test.YthkdbcckegfnjaaGreatCanonY
import Derived.Test.YthkdbcckegfnjaaGreatWorkFullm
import Derived.Test.YthkdbcckegfnjaaGreatProg
import Derived.KernelRfl
namespace Go.Proofs.YthkdbcckegfnjaaGreat
open Canon

theorem WorkFull_9 : rowsY (Canon.envK Tryz.prog 11) 60 3 mk_WorkFull 9 1 = true := by kernel_rfl
theorem WorkFull_10 : rowsY (Canon.envK Tryz.prog 11) 60 3 mk_WorkFull 10 1 = true := by kernel_rfl
theorem WorkFull_11 : rowsY (Canon.envK Tryz.prog 11) 60 3 mk_WorkFull 11 1 = true := by kernel_rfl

end Go.Proofs.YthkdbcckegfnjaaGreat
