/-
  Rows of NullForms, run.
-/
import Derived.Test.YtagjbgmfeghgnaaCanonV
import Derived.Test.YtagjbgmfeghgnaaProg
import Derived.KernelRfl
namespace Go.Proofs.Ytagjbgmfeghgnaa
open Canon

theorem NullForms_0 : isTrue (callN (envOf Try.prog) 60 5 [.complex .f64 14 0] (Canon.start Try.prog)) = true := by kernel_rfl
theorem NullForms_1 : isTrue (callN (envOf Try.prog) 60 5 [.complex .f64 14 1] (Canon.start Try.prog)) = true := by kernel_rfl
theorem NullForms_2 : isTrue (callN (envOf Try.prog) 60 5 [.complex .f64 14 2] (Canon.start Try.prog)) = true := by kernel_rfl
theorem NullForms_3 : isTrue (callN (envOf Try.prog) 60 5 [.complex .f64 14 3] (Canon.start Try.prog)) = true := by kernel_rfl
theorem NullForms_4 : isTrue (callN (envOf Try.prog) 60 5 [.complex .f64 14 4] (Canon.start Try.prog)) = true := by kernel_rfl
theorem NullForms_5 : isTrue (callN (envOf Try.prog) 60 5 [.complex .f64 14 5] (Canon.start Try.prog)) = true := by kernel_rfl
theorem NullForms_6 : isTrue (callN (envOf Try.prog) 60 5 [.complex .f64 14 6] (Canon.start Try.prog)) = true := by kernel_rfl

end Go.Proofs.Ytagjbgmfeghgnaa
