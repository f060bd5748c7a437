/-
  The program is such as the runner asks.
-/
import Derived.Test.YteidpellooahbaaDoorCanonV
import Derived.Test.YteidpellooahbaaDoorProg
import Derived.KernelRfl
namespace Go.Proofs.YteidpellooahbaaDoor
open Canon

theorem fit : Fit Tryd.prog := ⟨by kernel_rfl, by kernel_rfl, by kernel_rfl⟩

end Go.Proofs.YteidpellooahbaaDoor
