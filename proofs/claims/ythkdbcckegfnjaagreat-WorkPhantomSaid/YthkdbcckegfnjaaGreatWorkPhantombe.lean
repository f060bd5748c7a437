/-
  Rows of WorkPhantom, run.
-/
import Derived.Test.YthkdbcckegfnjaaGreatWorkPhantomr
import Derived.Test.YthkdbcckegfnjaaGreatWorkPhantomm
namespace Go.Proofs.YthkdbcckegfnjaaGreat
open Canon

theorem WorkPhantom_56 : isTrue (callT (Canon.envK Tryz.prog 11) [ph7_a] 60 4 (mk_WorkPhantom 56) (Canon.start Tryz.prog)) = true := by kernel_rfl
theorem WorkPhantom_57 : isTrue (callT (Canon.envK Tryz.prog 11) [ph7_a] 60 4 (mk_WorkPhantom 57) (Canon.start Tryz.prog)) = true := by kernel_rfl
theorem WorkPhantom_58 : isTrue (callT (Canon.envK Tryz.prog 11) [ph7_a] 60 4 (mk_WorkPhantom 58) (Canon.start Tryz.prog)) = true := by kernel_rfl
theorem WorkPhantom_59 : isTrue (callT (Canon.envK Tryz.prog 11) [ph7_a] 60 4 (mk_WorkPhantom 59) (Canon.start Tryz.prog)) = true := by kernel_rfl

end Go.Proofs.YthkdbcckegfnjaaGreat
