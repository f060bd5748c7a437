/-
  Rows of IcolForms, run.
-/
import Derived.Test.YthlfcjpjhajaaaaCanonW
import Derived.Test.YthlfcjpjhajaaaaProg
import Derived.KernelRfl
namespace Go.Proofs.Ythlfcjpjhajaaaa
open Canon

theorem IcolForms_16 : rowsBy (Canon.envK Try.prog 9) 60 3 (rowOf 23) 16 7 = true := by kernel_rfl

end Go.Proofs.Ythlfcjpjhajaaaa
