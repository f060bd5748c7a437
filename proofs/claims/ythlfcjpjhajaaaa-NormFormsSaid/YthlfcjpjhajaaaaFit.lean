/-
  The program is such as the runner asks.
-/
import Derived.Test.YthlfcjpjhajaaaaCanonV
import Derived.Test.YthlfcjpjhajaaaaProg
import Derived.KernelRfl
namespace Go.Proofs.Ythlfcjpjhajaaaa
open Canon

theorem fit : Fit Try.prog := ⟨by kernel_rfl, by kernel_rfl, by kernel_rfl⟩

end Go.Proofs.Ythlfcjpjhajaaaa
