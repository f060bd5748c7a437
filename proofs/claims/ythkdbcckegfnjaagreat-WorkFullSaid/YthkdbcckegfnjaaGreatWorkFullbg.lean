/-
  Rows of WorkFull, run.
-/
import Derived.Test.YthkdbcckegfnjaaGreatCanonY
import Derived.Test.YthkdbcckegfnjaaGreatWorkFullm
import Derived.Test.YthkdbcckegfnjaaGreatProg
import Derived.KernelRfl
namespace Go.Proofs.YthkdbcckegfnjaaGreat
open Canon

theorem WorkFull_48 : rowsY (Canon.envK Tryz.prog 11) 60 3 mk_WorkFull 48 1 = true := by kernel_rfl
theorem WorkFull_49 : rowsY (Canon.envK Tryz.prog 11) 60 3 mk_WorkFull 49 1 = true := by kernel_rfl
theorem WorkFull_50 : rowsY (Canon.envK Tryz.prog 11) 60 3 mk_WorkFull 50 1 = true := by kernel_rfl

end Go.Proofs.YthkdbcckegfnjaaGreat
