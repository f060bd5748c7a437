/-
  Rows of WorkPhantom, run.
-/
import Derived.Test.YthkdbcckegfnjaaGreatCanonY
import Derived.Test.YthkdbcckegfnjaaGreatProg
import Derived.KernelRfl
import Derived.Test.YthkdbcckegfnjaaGreatWorkPhantomm
namespace Go.Proofs.YthkdbcckegfnjaaGreat
open Canon

theorem WorkPhantom_24 : rowsY (Canon.envK Tryz.prog 11) 60 4 mk_WorkPhantom 24 1 = true := by kernel_rfl
theorem WorkPhantom_25 : rowsY (Canon.envK Tryz.prog 11) 60 4 mk_WorkPhantom 25 1 = true := by kernel_rfl
theorem WorkPhantom_26 : rowsY (Canon.envK Tryz.prog 11) 60 4 mk_WorkPhantom 26 1 = true := by kernel_rfl
theorem WorkPhantom_27 : rowsY (Canon.envK Tryz.prog 11) 60 4 mk_WorkPhantom 27 1 = true := by kernel_rfl
theorem WorkPhantom_28 : rowsY (Canon.envK Tryz.prog 11) 60 4 mk_WorkPhantom 28 1 = true := by kernel_rfl
theorem WorkPhantom_29 : rowsY (Canon.envK Tryz.prog 11) 60 4 mk_WorkPhantom 29 1 = true := by kernel_rfl
theorem WorkPhantom_30 : rowsY (Canon.envK Tryz.prog 11) 60 4 mk_WorkPhantom 30 1 = true := by kernel_rfl
theorem WorkPhantom_31 : rowsY (Canon.envK Tryz.prog 11) 60 4 mk_WorkPhantom 31 1 = true := by kernel_rfl

end Go.Proofs.YthkdbcckegfnjaaGreat
