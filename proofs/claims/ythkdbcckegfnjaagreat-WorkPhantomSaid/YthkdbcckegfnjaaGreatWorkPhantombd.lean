/-
  Rows of WorkPhantom, run.
-/
import Derived.Test.YthkdbcckegfnjaaGreatWorkPhantomq
import Derived.Test.YthkdbcckegfnjaaGreatWorkPhantomm
namespace Go.Proofs.YthkdbcckegfnjaaGreat
open Canon

theorem WorkPhantom_52 : isTrue (callT (Canon.envK Tryz.prog 11) [ph6_a] 60 4 (mk_WorkPhantom 52) (Canon.start Tryz.prog)) = true := by kernel_rfl
theorem WorkPhantom_53 : isTrue (callT (Canon.envK Tryz.prog 11) [ph6_a] 60 4 (mk_WorkPhantom 53) (Canon.start Tryz.prog)) = true := by kernel_rfl
theorem WorkPhantom_54 : isTrue (callT (Canon.envK Tryz.prog 11) [ph6_a] 60 4 (mk_WorkPhantom 54) (Canon.start Tryz.prog)) = true := by kernel_rfl
theorem WorkPhantom_55 : isTrue (callT (Canon.envK Tryz.prog 11) [ph6_a] 60 4 (mk_WorkPhantom 55) (Canon.start Tryz.prog)) = true := by kernel_rfl

end Go.Proofs.YthkdbcckegfnjaaGreat
