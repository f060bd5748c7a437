/-
  Rows of WorkFull, run.
-/
import Derived.Test.YthkdbcckegfnjaaGreatCanonY
import Derived.Test.YthkdbcckegfnjaaGreatWorkFullm
import Derived.Test.YthkdbcckegfnjaaGreatProg
import Derived.KernelRfl
namespace Go.Proofs.YthkdbcckegfnjaaGreat
open Canon

theorem WorkFull_45 : rowsY (Canon.envK Tryz.prog 11) 60 3 mk_WorkFull 45 1 = true := by kernel_rfl
theorem WorkFull_46 : rowsY (Canon.envK Tryz.prog 11) 60 3 mk_WorkFull 46 1 = true := by kernel_rfl
theorem WorkFull_47 : rowsY (Canon.envK Tryz.prog 11) 60 3 mk_WorkFull 47 1 = true := by kernel_rfl

end Go.Proofs.YthkdbcckegfnjaaGreat
