/-
  The program is such as the runner asks.
-/
import Derived.Test.YtagjbgmfeghgnaaCanonV
import Derived.Test.YtagjbgmfeghgnaaProg
import Derived.KernelRfl
namespace Go.Proofs.Ytagjbgmfeghgnaa
open Canon

theorem fit : Fit Try.prog := ⟨by kernel_rfl, by kernel_rfl, by kernel_rfl⟩

end Go.Proofs.Ytagjbgmfeghgnaa
