/-
  Rows of WorkFull, run.
-/
import Derived.Test.YthkdbcckegfnjaaGreatCanonY
import Derived.Test.YthkdbcckegfnjaaGreatWorkFullm
import Derived.Test.YthkdbcckegfnjaaGreatProg
import Derived.KernelRfl
namespace Go.Proofs.YthkdbcckegfnjaaGreat
open Canon

theorem WorkFull_3 : rowsY (Canon.envK Tryz.prog 11) 60 3 mk_WorkFull 3 1 = true := by kernel_rfl
theorem WorkFull_4 : rowsY (Canon.envK Tryz.prog 11) 60 3 mk_WorkFull 4 1 = true := by kernel_rfl
theorem WorkFull_5 : rowsY (Canon.envK Tryz.prog 11) 60 3 mk_WorkFull 5 1 = true := by kernel_rfl

end Go.Proofs.YthkdbcckegfnjaaGreat
