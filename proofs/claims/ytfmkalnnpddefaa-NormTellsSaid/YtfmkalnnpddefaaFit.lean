/-
  The program is such as the runner asks.
-/
import Derived.Test.YtfmkalnnpddefaaCanonV
import Derived.Test.YtfmkalnnpddefaaProg
import Derived.KernelRfl
namespace Go.Proofs.Ytfmkalnnpddefaa
open Canon

theorem fit : Fit Try.prog := ⟨by kernel_rfl, by kernel_rfl, by kernel_rfl⟩

end Go.Proofs.Ytfmkalnnpddefaa
