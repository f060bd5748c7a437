/-
  Rows of NullForms, run.
-/
import Derived.Test.YtagjbgmfeghgnaaCanonV
import Derived.Test.YtagjbgmfeghgnaaProg
import Derived.KernelRfl
namespace Go.Proofs.Ytagjbgmfeghgnaa
open Canon

theorem NullForms_7 : isTrue (callN (envOf Try.prog) 60 5 [.complex .f64 14 7] (Canon.start Try.prog)) = true := by kernel_rfl
theorem NullForms_8 : isTrue (callN (envOf Try.prog) 60 5 [.complex .f64 14 8] (Canon.start Try.prog)) = true := by kernel_rfl
theorem NullForms_9 : isTrue (callN (envOf Try.prog) 60 5 [.complex .f64 14 9] (Canon.start Try.prog)) = true := by kernel_rfl
theorem NullForms_10 : isTrue (callN (envOf Try.prog) 60 5 [.complex .f64 14 10] (Canon.start Try.prog)) = true := by kernel_rfl
theorem NullForms_11 : isTrue (callN (envOf Try.prog) 60 5 [.complex .f64 14 11] (Canon.start Try.prog)) = true := by kernel_rfl
theorem NullForms_12 : isTrue (callN (envOf Try.prog) 60 5 [.complex .f64 14 12] (Canon.start Try.prog)) = true := by kernel_rfl
theorem NullForms_13 : isTrue (callN (envOf Try.prog) 60 5 [.complex .f64 14 13] (Canon.start Try.prog)) = true := by kernel_rfl

end Go.Proofs.Ytagjbgmfeghgnaa
