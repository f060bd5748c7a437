/-
  Rows of WorkPhantom, run.
-/
import Derived.Test.YthkdbcckegfnjaaGreatCanonY
import Derived.Test.YthkdbcckegfnjaaGreatProg
import Derived.KernelRfl
import Derived.Test.YthkdbcckegfnjaaGreatWorkPhantomm
namespace Go.Proofs.YthkdbcckegfnjaaGreat
open Canon

theorem WorkPhantom_16 : rowsY (Canon.envK Tryz.prog 11) 60 4 mk_WorkPhantom 16 1 = true := by kernel_rfl
theorem WorkPhantom_17 : rowsY (Canon.envK Tryz.prog 11) 60 4 mk_WorkPhantom 17 1 = true := by kernel_rfl
theorem WorkPhantom_18 : rowsY (Canon.envK Tryz.prog 11) 60 4 mk_WorkPhantom 18 1 = true := by kernel_rfl
theorem WorkPhantom_19 : rowsY (Canon.envK Tryz.prog 11) 60 4 mk_WorkPhantom 19 1 = true := by kernel_rfl
theorem WorkPhantom_20 : rowsY (Canon.envK Tryz.prog 11) 60 4 mk_WorkPhantom 20 1 = true := by kernel_rfl
theorem WorkPhantom_21 : rowsY (Canon.envK Tryz.prog 11) 60 4 mk_WorkPhantom 21 1 = true := by kernel_rfl
theorem WorkPhantom_22 : rowsY (Canon.envK Tryz.prog 11) 60 4 mk_WorkPhantom 22 1 = true := by kernel_rfl
theorem WorkPhantom_23 : rowsY (Canon.envK Tryz.prog 11) 60 4 mk_WorkPhantom 23 1 = true := by kernel_rfl

end Go.Proofs.YthkdbcckegfnjaaGreat
