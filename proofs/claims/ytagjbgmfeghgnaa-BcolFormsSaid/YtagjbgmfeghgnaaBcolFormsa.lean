/-
  Rows of BcolForms, run.
-/
import Derived.Test.YtagjbgmfeghgnaaCanonV
import Derived.Test.YtagjbgmfeghgnaaProg
import Derived.KernelRfl
namespace Go.Proofs.Ytagjbgmfeghgnaa
open Canon

theorem BcolForms_0 : isTrue (callN (envOf Try.prog) 60 7 [.complex .f64 17 0] (Canon.start Try.prog)) = true := by kernel_rfl
theorem BcolForms_1 : isTrue (callN (envOf Try.prog) 60 7 [.complex .f64 17 1] (Canon.start Try.prog)) = true := by kernel_rfl
theorem BcolForms_2 : isTrue (callN (envOf Try.prog) 60 7 [.complex .f64 17 2] (Canon.start Try.prog)) = true := by kernel_rfl
theorem BcolForms_3 : isTrue (callN (envOf Try.prog) 60 7 [.complex .f64 17 3] (Canon.start Try.prog)) = true := by kernel_rfl
theorem BcolForms_4 : isTrue (callN (envOf Try.prog) 60 7 [.complex .f64 17 4] (Canon.start Try.prog)) = true := by kernel_rfl
theorem BcolForms_5 : isTrue (callN (envOf Try.prog) 60 7 [.complex .f64 17 5] (Canon.start Try.prog)) = true := by kernel_rfl

end Go.Proofs.Ytagjbgmfeghgnaa
