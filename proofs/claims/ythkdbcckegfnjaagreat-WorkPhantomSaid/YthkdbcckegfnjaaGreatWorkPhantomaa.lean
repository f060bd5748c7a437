/-
  Rows of WorkPhantom, run.
-/
import Derived.Test.YthkdbcckegfnjaaGreatCanonY
import Derived.Test.YthkdbcckegfnjaaGreatProg
import Derived.KernelRfl
import Derived.Test.YthkdbcckegfnjaaGreatWorkPhantomm
namespace Go.Proofs.YthkdbcckegfnjaaGreat
open Canon

theorem WorkPhantom_0 : rowsY (Canon.envK Tryz.prog 11) 60 4 mk_WorkPhantom 0 1 = true := by kernel_rfl
theorem WorkPhantom_1 : rowsY (Canon.envK Tryz.prog 11) 60 4 mk_WorkPhantom 1 1 = true := by kernel_rfl
theorem WorkPhantom_2 : rowsY (Canon.envK Tryz.prog 11) 60 4 mk_WorkPhantom 2 1 = true := by kernel_rfl
theorem WorkPhantom_3 : rowsY (Canon.envK Tryz.prog 11) 60 4 mk_WorkPhantom 3 1 = true := by kernel_rfl
theorem WorkPhantom_4 : rowsY (Canon.envK Tryz.prog 11) 60 4 mk_WorkPhantom 4 1 = true := by kernel_rfl
theorem WorkPhantom_5 : rowsY (Canon.envK Tryz.prog 11) 60 4 mk_WorkPhantom 5 1 = true := by kernel_rfl
theorem WorkPhantom_6 : rowsY (Canon.envK Tryz.prog 11) 60 4 mk_WorkPhantom 6 1 = true := by kernel_rfl
theorem WorkPhantom_7 : rowsY (Canon.envK Tryz.prog 11) 60 4 mk_WorkPhantom 7 1 = true := by kernel_rfl

end Go.Proofs.YthkdbcckegfnjaaGreat
