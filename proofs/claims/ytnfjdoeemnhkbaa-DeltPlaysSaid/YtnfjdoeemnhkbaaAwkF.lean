/-
  The program is such as the runner asks.
  What the document fixes of layer 4, run.
-/
import Derived.Test.YtnfjdoeemnhkbaaCanonV
import Derived.Test.YtnfjdoeemnhkbaaProg
import Derived.KernelRfl
namespace Go.Proofs.Ytnfjdoeemnhkbaa
open Canon

theorem fit : Fit Try.prog := ⟨by kernel_rfl, by kernel_rfl, by kernel_rfl⟩

end Go.Proofs.Ytnfjdoeemnhkbaa

namespace Go.Proofs.Ytnfjdoeemnhkbaa
set_option linter.unusedVariables false
open Canon Go.RowKit

end Go.Proofs.Ytnfjdoeemnhkbaa
