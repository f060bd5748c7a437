/-
  Rows of WorkPhantom, run.
-/
import Derived.Test.YthkdbcckegfnjaaGreatWorkPhantomp
import Derived.Test.YthkdbcckegfnjaaGreatWorkPhantomm
namespace Go.Proofs.YthkdbcckegfnjaaGreat
open Canon

theorem WorkPhantom_40 : isTrue (callT (Canon.envK Tryz.prog 11) [ph5_a] 60 4 (mk_WorkPhantom 40) (Canon.start Tryz.prog)) = true := by kernel_rfl
theorem WorkPhantom_41 : isTrue (callT (Canon.envK Tryz.prog 11) [ph5_a] 60 4 (mk_WorkPhantom 41) (Canon.start Tryz.prog)) = true := by kernel_rfl
theorem WorkPhantom_42 : isTrue (callT (Canon.envK Tryz.prog 11) [ph5_a] 60 4 (mk_WorkPhantom 42) (Canon.start Tryz.prog)) = true := by kernel_rfl
theorem WorkPhantom_43 : isTrue (callT (Canon.envK Tryz.prog 11) [ph5_a] 60 4 (mk_WorkPhantom 43) (Canon.start Tryz.prog)) = true := by kernel_rfl

end Go.Proofs.YthkdbcckegfnjaaGreat
