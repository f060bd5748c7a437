/-
  Rows of CodeForms, run.
-/
import Derived.Test.YtagjbgmfeghgnaaCanonV
import Derived.Test.YtagjbgmfeghgnaaProg
import Derived.KernelRfl
namespace Go.Proofs.Ytagjbgmfeghgnaa
open Canon

theorem CodeForms_0 : isTrue (callN (envOf Try.prog) 60 4 [.complex .f64 12 0] (Canon.start Try.prog)) = true := by kernel_rfl
theorem CodeForms_1 : isTrue (callN (envOf Try.prog) 60 4 [.complex .f64 12 1] (Canon.start Try.prog)) = true := by kernel_rfl
theorem CodeForms_2 : isTrue (callN (envOf Try.prog) 60 4 [.complex .f64 12 2] (Canon.start Try.prog)) = true := by kernel_rfl
theorem CodeForms_3 : isTrue (callN (envOf Try.prog) 60 4 [.complex .f64 12 3] (Canon.start Try.prog)) = true := by kernel_rfl
theorem CodeForms_4 : isTrue (callN (envOf Try.prog) 60 4 [.complex .f64 12 4] (Canon.start Try.prog)) = true := by kernel_rfl
theorem CodeForms_5 : isTrue (callN (envOf Try.prog) 60 4 [.complex .f64 12 5] (Canon.start Try.prog)) = true := by kernel_rfl

end Go.Proofs.Ytagjbgmfeghgnaa
