/-
  The program is such as the runner asks.
-/
import Derived.Test.YthkdbcckegfnjaaGreatCanonV
import Derived.Test.YthkdbcckegfnjaaGreatProg
import Derived.KernelRfl
namespace Go.Proofs.YthkdbcckegfnjaaGreat
open Canon

theorem fit : Fit Tryz.prog := ⟨by kernel_rfl, by kernel_rfl, by kernel_rfl⟩

end Go.Proofs.YthkdbcckegfnjaaGreat
