/-
  Rows of WorkFull, run.
-/
import Derived.Test.YthkdbcckegfnjaaGreatCanonY
import Derived.Test.YthkdbcckegfnjaaGreatWorkFullm
import Derived.Test.YthkdbcckegfnjaaGreatProg
import Derived.KernelRfl
namespace Go.Proofs.YthkdbcckegfnjaaGreat
open Canon

theorem WorkFull_15 : rowsY (Canon.envK Tryz.prog 11) 60 3 mk_WorkFull 15 1 = true := by kernel_rfl
theorem WorkFull_16 : rowsY (Canon.envK Tryz.prog 11) 60 3 mk_WorkFull 16 1 = true := by kernel_rfl
theorem WorkFull_17 : rowsY (Canon.envK Tryz.prog 11) 60 3 mk_WorkFull 17 1 = true := by kernel_rfl

end Go.Proofs.YthkdbcckegfnjaaGreat
