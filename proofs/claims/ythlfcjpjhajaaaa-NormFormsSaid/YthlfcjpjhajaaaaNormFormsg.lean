/-
  Rows of NormForms, run.
-/
import Derived.Test.YthlfcjpjhajaaaaCanonW
import Derived.Test.YthlfcjpjhajaaaaProg
import Derived.KernelRfl
namespace Go.Proofs.Ythlfcjpjhajaaaa
open Canon

theorem NormForms_12 : rowsBy (Canon.envK Try.prog 15) 60 4 (rowOf 18) 12 2 = true := by kernel_rfl

end Go.Proofs.Ythlfcjpjhajaaaa
