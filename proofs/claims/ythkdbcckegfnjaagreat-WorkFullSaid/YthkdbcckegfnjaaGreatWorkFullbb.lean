/-
  Rows of WorkFull, run.
-/
import Derived.Test.YthkdbcckegfnjaaGreatCanonY
import Derived.Test.YthkdbcckegfnjaaGreatWorkFullm
import Derived.Test.YthkdbcckegfnjaaGreatProg
import Derived.KernelRfl
namespace Go.Proofs.YthkdbcckegfnjaaGreat
open Canon

theorem WorkFull_33 : rowsY (Canon.envK Tryz.prog 11) 60 3 mk_WorkFull 33 1 = true := by kernel_rfl
theorem WorkFull_34 : rowsY (Canon.envK Tryz.prog 11) 60 3 mk_WorkFull 34 1 = true := by kernel_rfl
theorem WorkFull_35 : rowsY (Canon.envK Tryz.prog 11) 60 3 mk_WorkFull 35 1 = true := by kernel_rfl

end Go.Proofs.YthkdbcckegfnjaaGreat
