/-
  The program is such as the runner asks.
-/
import Derived.Test.YthlfcjpjhajaaaaGreatCanonV
import Derived.Test.YthlfcjpjhajaaaaGreatProg
import Derived.KernelRfl
namespace Go.Proofs.YthlfcjpjhajaaaaGreat
open Canon

theorem fit : Fit Tryz.prog := ⟨by kernel_rfl, by kernel_rfl, by kernel_rfl⟩

end Go.Proofs.YthlfcjpjhajaaaaGreat
