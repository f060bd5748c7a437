/-
  Rows of WorkPhantom, run.
-/
import Derived.Test.YthkdbcckegfnjaaGreatCanonY
import Derived.Test.YthkdbcckegfnjaaGreatProg
import Derived.KernelRfl
import Derived.Test.YthkdbcckegfnjaaGreatWorkPhantomm
namespace Go.Proofs.YthkdbcckegfnjaaGreat
open Canon

theorem WorkPhantom_8 : rowsY (Canon.envK Tryz.prog 11) 60 4 mk_WorkPhantom 8 1 = true := by kernel_rfl
theorem WorkPhantom_9 : rowsY (Canon.envK Tryz.prog 11) 60 4 mk_WorkPhantom 9 1 = true := by kernel_rfl
theorem WorkPhantom_10 : rowsY (Canon.envK Tryz.prog 11) 60 4 mk_WorkPhantom 10 1 = true := by kernel_rfl
theorem WorkPhantom_11 : rowsY (Canon.envK Tryz.prog 11) 60 4 mk_WorkPhantom 11 1 = true := by kernel_rfl
theorem WorkPhantom_12 : rowsY (Canon.envK Tryz.prog 11) 60 4 mk_WorkPhantom 12 1 = true := by kernel_rfl
theorem WorkPhantom_13 : rowsY (Canon.envK Tryz.prog 11) 60 4 mk_WorkPhantom 13 1 = true := by kernel_rfl
theorem WorkPhantom_14 : rowsY (Canon.envK Tryz.prog 11) 60 4 mk_WorkPhantom 14 1 = true := by kernel_rfl
theorem WorkPhantom_15 : rowsY (Canon.envK Tryz.prog 11) 60 4 mk_WorkPhantom 15 1 = true := by kernel_rfl

end Go.Proofs.YthkdbcckegfnjaaGreat
