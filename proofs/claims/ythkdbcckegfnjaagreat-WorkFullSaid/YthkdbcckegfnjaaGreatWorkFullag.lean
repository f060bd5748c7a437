/-
  Rows of WorkFull, run.
-/
import Derived.Test.YthkdbcckegfnjaaGreatCanonY
import Derived.Test.YthkdbcckegfnjaaGreatWorkFullm
import Derived.Test.YthkdbcckegfnjaaGreatProg
import Derived.KernelRfl
namespace Go.Proofs.YthkdbcckegfnjaaGreat
open Canon

theorem WorkFull_18 : rowsY (Canon.envK Tryz.prog 11) 60 3 mk_WorkFull 18 1 = true := by kernel_rfl
theorem WorkFull_19 : rowsY (Canon.envK Tryz.prog 11) 60 3 mk_WorkFull 19 1 = true := by kernel_rfl
theorem WorkFull_20 : rowsY (Canon.envK Tryz.prog 11) 60 3 mk_WorkFull 20 1 = true := by kernel_rfl

end Go.Proofs.YthkdbcckegfnjaaGreat
