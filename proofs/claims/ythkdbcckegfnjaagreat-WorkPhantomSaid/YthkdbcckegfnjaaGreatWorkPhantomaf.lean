/-
  Rows of WorkPhantom, run.
-/
import Derived.Test.YthkdbcckegfnjaaGreatWorkPhantomp
import Derived.Test.YthkdbcckegfnjaaGreatWorkPhantomm
namespace Go.Proofs.YthkdbcckegfnjaaGreat
open Canon

theorem WorkPhantom_36 : isTrue (callT (Canon.envK Tryz.prog 11) [ph4_a] 60 4 (mk_WorkPhantom 36) (Canon.start Tryz.prog)) = true := by kernel_rfl
theorem WorkPhantom_37 : isTrue (callT (Canon.envK Tryz.prog 11) [ph4_a] 60 4 (mk_WorkPhantom 37) (Canon.start Tryz.prog)) = true := by kernel_rfl
theorem WorkPhantom_38 : isTrue (callT (Canon.envK Tryz.prog 11) [ph4_a] 60 4 (mk_WorkPhantom 38) (Canon.start Tryz.prog)) = true := by kernel_rfl
theorem WorkPhantom_39 : isTrue (callT (Canon.envK Tryz.prog 11) [ph4_a] 60 4 (mk_WorkPhantom 39) (Canon.start Tryz.prog)) = true := by kernel_rfl

end Go.Proofs.YthkdbcckegfnjaaGreat
