/-
  Rows of WorkPhantom, run.
-/
import Derived.Test.YthkdbcckegfnjaaGreatWorkPhantomr
import Derived.Test.YthkdbcckegfnjaaGreatWorkPhantomm
namespace Go.Proofs.YthkdbcckegfnjaaGreat
open Canon

theorem WorkPhantom_60 : isTrue (callT (Canon.envK Tryz.prog 11) [ph7_a] 60 4 (mk_WorkPhantom 60) (Canon.start Tryz.prog)) = true := by kernel_rfl
theorem WorkPhantom_61 : isTrue (callT (Canon.envK Tryz.prog 11) [ph7_a] 60 4 (mk_WorkPhantom 61) (Canon.start Tryz.prog)) = true := by kernel_rfl
theorem WorkPhantom_62 : isTrue (callT (Canon.envK Tryz.prog 11) [ph7_a] 60 4 (mk_WorkPhantom 62) (Canon.start Tryz.prog)) = true := by kernel_rfl
theorem WorkPhantom_63 : isTrue (callT (Canon.envK Tryz.prog 11) [ph7_a] 60 4 (mk_WorkPhantom 63) (Canon.start Tryz.prog)) = true := by kernel_rfl

end Go.Proofs.YthkdbcckegfnjaaGreat
