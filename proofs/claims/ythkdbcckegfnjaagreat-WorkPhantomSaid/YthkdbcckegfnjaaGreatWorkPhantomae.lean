/-
  Rows of WorkPhantom, run.
-/
import Derived.Test.YthkdbcckegfnjaaGreatWorkPhantomp
import Derived.Test.YthkdbcckegfnjaaGreatWorkPhantomm
namespace Go.Proofs.YthkdbcckegfnjaaGreat
open Canon

theorem WorkPhantom_32 : isTrue (callT (Canon.envK Tryz.prog 11) [ph4_a] 60 4 (mk_WorkPhantom 32) (Canon.start Tryz.prog)) = true := by kernel_rfl
theorem WorkPhantom_33 : isTrue (callT (Canon.envK Tryz.prog 11) [ph4_a] 60 4 (mk_WorkPhantom 33) (Canon.start Tryz.prog)) = true := by kernel_rfl
theorem WorkPhantom_34 : isTrue (callT (Canon.envK Tryz.prog 11) [ph4_a] 60 4 (mk_WorkPhantom 34) (Canon.start Tryz.prog)) = true := by kernel_rfl
theorem WorkPhantom_35 : isTrue (callT (Canon.envK Tryz.prog 11) [ph4_a] 60 4 (mk_WorkPhantom 35) (Canon.start Tryz.prog)) = true := by kernel_rfl

end Go.Proofs.YthkdbcckegfnjaaGreat
