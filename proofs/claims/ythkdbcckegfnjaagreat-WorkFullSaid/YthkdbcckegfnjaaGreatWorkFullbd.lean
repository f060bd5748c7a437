/-
  Rows of WorkFull, run.
-/
import Derived.Test.YthkdbcckegfnjaaGreatCanonY
import Derived.Test.YthkdbcckegfnjaaGreatWorkFullm
import Derived.Test.YthkdbcckegfnjaaGreatProg
import Derived.KernelRfl
namespace Go.Proofs.YthkdbcckegfnjaaGreat
open Canon

theorem WorkFull_39 : rowsY (Canon.envK Tryz.prog 11) 60 3 mk_WorkFull 39 1 = true := by kernel_rfl
theorem WorkFull_40 : rowsY (Canon.envK Tryz.prog 11) 60 3 mk_WorkFull 40 1 = true := by kernel_rfl
theorem WorkFull_41 : rowsY (Canon.envK Tryz.prog 11) 60 3 mk_WorkFull 41 1 = true := by kernel_rfl

end Go.Proofs.YthkdbcckegfnjaaGreat
