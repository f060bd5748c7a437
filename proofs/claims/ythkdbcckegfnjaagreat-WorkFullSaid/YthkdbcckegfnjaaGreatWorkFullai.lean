/-
  Rows of WorkFull, run.
-/
import Derived.Test.YthkdbcckegfnjaaGreatCanonY
import Derived.Test.YthkdbcckegfnjaaGreatWorkFullm
import Derived.Test.YthkdbcckegfnjaaGreatProg
import Derived.KernelRfl
namespace Go.Proofs.YthkdbcckegfnjaaGreat
open Canon

theorem WorkFull_24 : rowsY (Canon.envK Tryz.prog 11) 60 3 mk_WorkFull 24 1 = true := by kernel_rfl
theorem WorkFull_25 : rowsY (Canon.envK Tryz.prog 11) 60 3 mk_WorkFull 25 1 = true := by kernel_rfl
theorem WorkFull_26 : rowsY (Canon.envK Tryz.prog 11) 60 3 mk_WorkFull 26 1 = true := by kernel_rfl

end Go.Proofs.YthkdbcckegfnjaaGreat
