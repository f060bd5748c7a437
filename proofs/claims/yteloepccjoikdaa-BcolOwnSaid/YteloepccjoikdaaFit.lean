/-
  The program is such as the runner asks.
-/
import Derived.Test.YteloepccjoikdaaCanonV
import Derived.Test.YteloepccjoikdaaProg
import Derived.KernelRfl
namespace Go.Proofs.Yteloepccjoikdaa
open Canon

theorem fit : Fit Try.prog := ⟨by kernel_rfl, by kernel_rfl, by kernel_rfl⟩

end Go.Proofs.Yteloepccjoikdaa
