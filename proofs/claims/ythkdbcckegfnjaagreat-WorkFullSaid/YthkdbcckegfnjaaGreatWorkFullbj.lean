/-
  Rows of WorkFull, run.
-/
import Derived.Test.YthkdbcckegfnjaaGreatCanonY
import Derived.Test.YthkdbcckegfnjaaGreatWorkFullm
import Derived.Test.YthkdbcckegfnjaaGreatProg
import Derived.KernelRfl
namespace Go.Proofs.YthkdbcckegfnjaaGreat
open Canon

theorem WorkFull_57 : rowsY (Canon.envK Tryz.prog 11) 60 3 mk_WorkFull 57 1 = true := by kernel_rfl
theorem WorkFull_58 : rowsY (Canon.envK Tryz.prog 11) 60 3 mk_WorkFull 58 1 = true := by kernel_rfl
theorem WorkFull_59 : rowsY (Canon.envK Tryz.prog 11) 60 3 mk_WorkFull 59 1 = true := by kernel_rfl

end Go.Proofs.YthkdbcckegfnjaaGreat
