/-
  Rows of WorkFull, run.
-/
import Derived.Test.YthkdbcckegfnjaaGreatCanonY
import Derived.Test.YthkdbcckegfnjaaGreatWorkFullm
import Derived.Test.YthkdbcckegfnjaaGreatProg
import Derived.KernelRfl
namespace Go.Proofs.YthkdbcckegfnjaaGreat
open Canon

theorem WorkFull_60 : rowsY (Canon.envK Tryz.prog 11) 60 3 mk_WorkFull 60 1 = true := by kernel_rfl
theorem WorkFull_61 : rowsY (Canon.envK Tryz.prog 11) 60 3 mk_WorkFull 61 1 = true := by kernel_rfl
theorem WorkFull_62 : rowsY (Canon.envK Tryz.prog 11) 60 3 mk_WorkFull 62 1 = true := by kernel_rfl

end Go.Proofs.YthkdbcckegfnjaaGreat
