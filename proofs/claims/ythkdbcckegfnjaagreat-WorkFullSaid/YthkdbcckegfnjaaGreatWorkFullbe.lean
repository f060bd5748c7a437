/-
  Rows of WorkFull, run.
-/
import Derived.Test.YthkdbcckegfnjaaGreatCanonY
import Derived.Test.YthkdbcckegfnjaaGreatWorkFullm
import Derived.Test.YthkdbcckegfnjaaGreatProg
import Derived.KernelRfl
namespace Go.Proofs.YthkdbcckegfnjaaGreat
open Canon

theorem WorkFull_42 : rowsY (Canon.envK Tryz.prog 11) 60 3 mk_WorkFull 42 1 = true := by kernel_rfl
theorem WorkFull_43 : rowsY (Canon.envK Tryz.prog 11) 60 3 mk_WorkFull 43 1 = true := by kernel_rfl
theorem WorkFull_44 : rowsY (Canon.envK Tryz.prog 11) 60 3 mk_WorkFull 44 1 = true := by kernel_rfl

end Go.Proofs.YthkdbcckegfnjaaGreat
