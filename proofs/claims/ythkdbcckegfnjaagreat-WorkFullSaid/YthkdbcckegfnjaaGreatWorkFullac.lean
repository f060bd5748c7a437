/-
  Rows of WorkFull, run.
-/
import Derived.Test.YthkdbcckegfnjaaGreatCanonY
import Derived.Test.YthkdbcckegfnjaaGreatWorkFullm
import Derived.Test.YthkdbcckegfnjaaGreatProg
import Derived.KernelRfl
namespace Go.Proofs.YthkdbcckegfnjaaGreat
open Canon

theorem WorkFull_6 : rowsY (Canon.envK Tryz.prog 11) 60 3 mk_WorkFull 6 1 = true := by kernel_rfl
theorem WorkFull_7 : rowsY (Canon.envK Tryz.prog 11) 60 3 mk_WorkFull 7 1 = true := by kernel_rfl
theorem WorkFull_8 : rowsY (Canon.envK Tryz.prog 11) 60 3 mk_WorkFull 8 1 = true := by kernel_rfl

end Go.Proofs.YthkdbcckegfnjaaGreat
