/-
  Rows of WorkPhantom, run.
-/
import Derived.Test.YthkdbcckegfnjaaGreatWorkPhantomq
import Derived.Test.YthkdbcckegfnjaaGreatWorkPhantomm
namespace Go.Proofs.YthkdbcckegfnjaaGreat
open Canon

theorem WorkPhantom_48 : isTrue (callT (Canon.envK Tryz.prog 11) [ph6_a] 60 4 (mk_WorkPhantom 48) (Canon.start Tryz.prog)) = true := by kernel_rfl
theorem WorkPhantom_49 : isTrue (callT (Canon.envK Tryz.prog 11) [ph6_a] 60 4 (mk_WorkPhantom 49) (Canon.start Tryz.prog)) = true := by kernel_rfl
theorem WorkPhantom_50 : isTrue (callT (Canon.envK Tryz.prog 11) [ph6_a] 60 4 (mk_WorkPhantom 50) (Canon.start Tryz.prog)) = true := by kernel_rfl
theorem WorkPhantom_51 : isTrue (callT (Canon.envK Tryz.prog 11) [ph6_a] 60 4 (mk_WorkPhantom 51) (Canon.start Tryz.prog)) = true := by kernel_rfl

end Go.Proofs.YthkdbcckegfnjaaGreat
