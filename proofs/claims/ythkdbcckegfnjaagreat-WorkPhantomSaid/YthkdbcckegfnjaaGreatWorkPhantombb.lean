/-
  Rows of WorkPhantom, run.
-/
import Derived.Test.YthkdbcckegfnjaaGreatWorkPhantomp
import Derived.Test.YthkdbcckegfnjaaGreatWorkPhantomm
namespace Go.Proofs.YthkdbcckegfnjaaGreat
open Canon

theorem WorkPhantom_44 : isTrue (callT (Canon.envK Tryz.prog 11) [ph5_a] 60 4 (mk_WorkPhantom 44) (Canon.start Tryz.prog)) = true := by kernel_rfl
theorem WorkPhantom_45 : isTrue (callT (Canon.envK Tryz.prog 11) [ph5_a] 60 4 (mk_WorkPhantom 45) (Canon.start Tryz.prog)) = true := by kernel_rfl
theorem WorkPhantom_46 : isTrue (callT (Canon.envK Tryz.prog 11) [ph5_a] 60 4 (mk_WorkPhantom 46) (Canon.start Tryz.prog)) = true := by kernel_rfl
theorem WorkPhantom_47 : isTrue (callT (Canon.envK Tryz.prog 11) [ph5_a] 60 4 (mk_WorkPhantom 47) (Canon.start Tryz.prog)) = true := by kernel_rfl

end Go.Proofs.YthkdbcckegfnjaaGreat
