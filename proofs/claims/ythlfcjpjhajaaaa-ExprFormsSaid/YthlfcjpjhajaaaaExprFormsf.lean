/-
  Rows of ExprForms, run.
-/
import Derived.Test.YthlfcjpjhajaaaaCanonW
import Derived.Test.YthlfcjpjhajaaaaProg
import Derived.KernelRfl
namespace Go.Proofs.Ythlfcjpjhajaaaa
open Canon

theorem ExprForms_25 : rowsBy (Canon.envK Try.prog 20) 60 5 (rowOf 35) 25 5 = true := by kernel_rfl

end Go.Proofs.Ythlfcjpjhajaaaa
