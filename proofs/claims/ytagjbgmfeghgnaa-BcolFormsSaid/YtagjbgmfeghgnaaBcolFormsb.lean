/-
  Rows of BcolForms, run.
-/
import Derived.Test.YtagjbgmfeghgnaaCanonV
import Derived.Test.YtagjbgmfeghgnaaProg
import Derived.KernelRfl
namespace Go.Proofs.Ytagjbgmfeghgnaa
open Canon

theorem BcolForms_6 : isTrue (callN (envOf Try.prog) 60 7 [.complex .f64 17 6] (Canon.start Try.prog)) = true := by kernel_rfl
theorem BcolForms_7 : isTrue (callN (envOf Try.prog) 60 7 [.complex .f64 17 7] (Canon.start Try.prog)) = true := by kernel_rfl
theorem BcolForms_8 : isTrue (callN (envOf Try.prog) 60 7 [.complex .f64 17 8] (Canon.start Try.prog)) = true := by kernel_rfl
theorem BcolForms_9 : isTrue (callN (envOf Try.prog) 60 7 [.complex .f64 17 9] (Canon.start Try.prog)) = true := by kernel_rfl
theorem BcolForms_10 : isTrue (callN (envOf Try.prog) 60 7 [.complex .f64 17 10] (Canon.start Try.prog)) = true := by kernel_rfl
theorem BcolForms_11 : isTrue (callN (envOf Try.prog) 60 7 [.complex .f64 17 11] (Canon.start Try.prog)) = true := by kernel_rfl

end Go.Proofs.Ytagjbgmfeghgnaa
