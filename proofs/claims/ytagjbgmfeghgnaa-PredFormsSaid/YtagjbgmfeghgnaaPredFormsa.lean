/-
  Rows of PredForms, run.
-/
import Derived.Test.YtagjbgmfeghgnaaCanonV
import Derived.Test.YtagjbgmfeghgnaaProg
import Derived.KernelRfl
namespace Go.Proofs.Ytagjbgmfeghgnaa
open Canon

theorem PredForms_0 : isTrue (callN (envOf Try.prog) 60 9 [.complex .f64 23 0] (Canon.start Try.prog)) = true := by kernel_rfl
theorem PredForms_1 : isTrue (callN (envOf Try.prog) 60 9 [.complex .f64 23 1] (Canon.start Try.prog)) = true := by kernel_rfl
theorem PredForms_2 : isTrue (callN (envOf Try.prog) 60 9 [.complex .f64 23 2] (Canon.start Try.prog)) = true := by kernel_rfl
theorem PredForms_3 : isTrue (callN (envOf Try.prog) 60 9 [.complex .f64 23 3] (Canon.start Try.prog)) = true := by kernel_rfl
theorem PredForms_4 : isTrue (callN (envOf Try.prog) 60 9 [.complex .f64 23 4] (Canon.start Try.prog)) = true := by kernel_rfl
theorem PredForms_5 : isTrue (callN (envOf Try.prog) 60 9 [.complex .f64 23 5] (Canon.start Try.prog)) = true := by kernel_rfl
theorem PredForms_6 : isTrue (callN (envOf Try.prog) 60 9 [.complex .f64 23 6] (Canon.start Try.prog)) = true := by kernel_rfl
theorem PredForms_7 : isTrue (callN (envOf Try.prog) 60 9 [.complex .f64 23 7] (Canon.start Try.prog)) = true := by kernel_rfl

end Go.Proofs.Ytagjbgmfeghgnaa
