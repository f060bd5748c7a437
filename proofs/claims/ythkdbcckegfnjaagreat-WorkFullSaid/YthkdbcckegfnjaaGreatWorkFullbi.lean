/-
  Rows of WorkFull, run.
-/
import Derived.Test.YthkdbcckegfnjaaGreatCanonY
import Derived.Test.YthkdbcckegfnjaaGreatWorkFullm
import Derived.Test.YthkdbcckegfnjaaGreatProg
import Derived.KernelRfl
namespace Go.Proofs.YthkdbcckegfnjaaGreat
open Canon

theorem WorkFull_54 : rowsY (Canon.envK Tryz.prog 11) 60 3 mk_WorkFull 54 1 = true := by kernel_rfl
theorem WorkFull_55 : rowsY (Canon.envK Tryz.prog 11) 60 3 mk_WorkFull 55 1 = true := by kernel_rfl
theorem WorkFull_56 : rowsY (Canon.envK Tryz.prog 11) 60 3 mk_WorkFull 56 1 = true := by kernel_rfl

end Go.Proofs.YthkdbcckegfnjaaGreat
