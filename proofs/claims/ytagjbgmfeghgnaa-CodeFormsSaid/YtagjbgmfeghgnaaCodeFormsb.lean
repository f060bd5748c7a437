/-
  Rows of CodeForms, run.
-/
import Derived.Test.YtagjbgmfeghgnaaCanonV
import Derived.Test.YtagjbgmfeghgnaaProg
import Derived.KernelRfl
namespace Go.Proofs.Ytagjbgmfeghgnaa
open Canon

theorem CodeForms_6 : isTrue (callN (envOf Try.prog) 60 4 [.complex .f64 12 6] (Canon.start Try.prog)) = true := by kernel_rfl
theorem CodeForms_7 : isTrue (callN (envOf Try.prog) 60 4 [.complex .f64 12 7] (Canon.start Try.prog)) = true := by kernel_rfl
theorem CodeForms_8 : isTrue (callN (envOf Try.prog) 60 4 [.complex .f64 12 8] (Canon.start Try.prog)) = true := by kernel_rfl
theorem CodeForms_9 : isTrue (callN (envOf Try.prog) 60 4 [.complex .f64 12 9] (Canon.start Try.prog)) = true := by kernel_rfl
theorem CodeForms_10 : isTrue (callN (envOf Try.prog) 60 4 [.complex .f64 12 10] (Canon.start Try.prog)) = true := by kernel_rfl
theorem CodeForms_11 : isTrue (callN (envOf Try.prog) 60 4 [.complex .f64 12 11] (Canon.start Try.prog)) = true := by kernel_rfl

end Go.Proofs.Ytagjbgmfeghgnaa
