/-
  Rows of WorkFull, run.
-/
import Derived.Test.YthkdbcckegfnjaaGreatCanonY
import Derived.Test.YthkdbcckegfnjaaGreatWorkFullm
import Derived.Test.YthkdbcckegfnjaaGreatProg
import Derived.KernelRfl
namespace Go.Proofs.YthkdbcckegfnjaaGreat
open Canon

theorem WorkFull_12 : rowsY (Canon.envK Tryz.prog 11) 60 3 mk_WorkFull 12 1 = true := by kernel_rfl
theorem WorkFull_13 : rowsY (Canon.envK Tryz.prog 11) 60 3 mk_WorkFull 13 1 = true := by kernel_rfl
theorem WorkFull_14 : rowsY (Canon.envK Tryz.prog 11) 60 3 mk_WorkFull 14 1 = true := by kernel_rfl

end Go.Proofs.YthkdbcckegfnjaaGreat
