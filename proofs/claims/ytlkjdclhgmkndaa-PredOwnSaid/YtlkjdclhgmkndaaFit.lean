/-
  The program is such as the runner asks.
-/
import Derived.Test.YtlkjdclhgmkndaaCanonV
import Derived.Test.YtlkjdclhgmkndaaProg
import Derived.KernelRfl
namespace Go.Proofs.Ytlkjdclhgmkndaa
open Canon

theorem fit : Fit Try.prog := ⟨by kernel_rfl, by kernel_rfl, by kernel_rfl⟩

end Go.Proofs.Ytlkjdclhgmkndaa
