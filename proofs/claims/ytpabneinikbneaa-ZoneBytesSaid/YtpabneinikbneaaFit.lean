/-
  The program is such as the runner asks.
-/
import Derived.Test.YtpabneinikbneaaCanonV
import Derived.Test.YtpabneinikbneaaProg
import Derived.KernelRfl
namespace Go.Proofs.Ytpabneinikbneaa
open Canon

theorem fit : Fit Try.prog := ⟨by kernel_rfl, by kernel_rfl, by kernel_rfl⟩

end Go.Proofs.Ytpabneinikbneaa
