/-
  The program is such as the runner asks.
-/
import Derived.Test.YtnjeoolbnanmiaaCanonV
import Derived.Test.YtnjeoolbnanmiaaProg
import Derived.KernelRfl
namespace Go.Proofs.Ytnjeoolbnanmiaa
open Canon

theorem fit : Fit Try.prog := ⟨by kernel_rfl, by kernel_rfl, by kernel_rfl⟩

end Go.Proofs.Ytnjeoolbnanmiaa
