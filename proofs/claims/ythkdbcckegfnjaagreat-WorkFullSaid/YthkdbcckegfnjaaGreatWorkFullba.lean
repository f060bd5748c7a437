/-
  Rows of WorkFull, run.
-/
import Derived.Test.YthkdbcckegfnjaaGreatCanonY
import Derived.Test.YthkdbcckegfnjaaGreatWorkFullm
import Derived.Test.YthkdbcckegfnjaaGreatProg
import Derived.KernelRfl
namespace Go.Proofs.YthkdbcckegfnjaaGreat
open Canon

theorem WorkFull_30 : rowsY (Canon.envK Tryz.prog 11) 60 3 mk_WorkFull 30 1 = true := by kernel_rfl
theorem WorkFull_31 : rowsY (Canon.envK Tryz.prog 11) 60 3 mk_WorkFull 31 1 = true := by kernel_rfl
theorem WorkFull_32 : rowsY (Canon.envK Tryz.prog 11) 60 3 mk_WorkFull 32 1 = true := by kernel_rfl

end Go.Proofs.YthkdbcckegfnjaaGreat
