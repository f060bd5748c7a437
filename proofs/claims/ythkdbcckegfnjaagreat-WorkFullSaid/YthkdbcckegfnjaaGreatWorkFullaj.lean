/-
  Rows of WorkFull, run.
-/
import Derived.Test.YthkdbcckegfnjaaGreatCanonY
import Derived.Test.YthkdbcckegfnjaaGreatWorkFullm
import Derived.Test.YthkdbcckegfnjaaGreatProg
import Derived.KernelRfl
namespace Go.Proofs.YthkdbcckegfnjaaGreat
open Canon

theorem WorkFull_27 : rowsY (Canon.envK Tryz.prog 11) 60 3 mk_WorkFull 27 1 = true := by kernel_rfl
theorem WorkFull_28 : rowsY (Canon.envK Tryz.prog 11) 60 3 mk_WorkFull 28 1 = true := by kernel_rfl
theorem WorkFull_29 : rowsY (Canon.envK Tryz.prog 11) 60 3 mk_WorkFull 29 1 = true := by kernel_rfl

end Go.Proofs.YthkdbcckegfnjaaGreat
