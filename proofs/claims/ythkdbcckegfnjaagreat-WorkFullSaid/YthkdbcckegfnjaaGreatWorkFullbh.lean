/-
  Rows of WorkFull, run.
-/
import Derived.Test.YthkdbcckegfnjaaGreatCanonY
import Derived.Test.YthkdbcckegfnjaaGreatWorkFullm
import Derived.Test.YthkdbcckegfnjaaGreatProg
import Derived.KernelRfl
namespace Go.Proofs.YthkdbcckegfnjaaGreat
open Canon

theorem WorkFull_51 : rowsY (Canon.envK Tryz.prog 11) 60 3 mk_WorkFull 51 1 = true := by kernel_rfl
theorem WorkFull_52 : rowsY (Canon.envK Tryz.prog 11) 60 3 mk_WorkFull 52 1 = true := by kernel_rfl
theorem WorkFull_53 : rowsY (Canon.envK Tryz.prog 11) 60 3 mk_WorkFull 53 1 = true := by kernel_rfl

end Go.Proofs.YthkdbcckegfnjaaGreat
