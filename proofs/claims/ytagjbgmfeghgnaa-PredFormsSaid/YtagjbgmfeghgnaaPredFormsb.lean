/-
  Rows of PredForms, run.
-/
import Derived.Test.YtagjbgmfeghgnaaCanonV
import Derived.Test.YtagjbgmfeghgnaaProg
import Derived.KernelRfl
namespace Go.Proofs.Ytagjbgmfeghgnaa
open Canon

theorem PredForms_8 : isTrue (callN (envOf Try.prog) 60 9 [.complex .f64 23 8] (Canon.start Try.prog)) = true := by kernel_rfl
theorem PredForms_9 : isTrue (callN (envOf Try.prog) 60 9 [.complex .f64 23 9] (Canon.start Try.prog)) = true := by kernel_rfl
theorem PredForms_10 : isTrue (callN (envOf Try.prog) 60 9 [.complex .f64 23 10] (Canon.start Try.prog)) = true := by kernel_rfl
theorem PredForms_11 : isTrue (callN (envOf Try.prog) 60 9 [.complex .f64 23 11] (Canon.start Try.prog)) = true := by kernel_rfl
theorem PredForms_12 : isTrue (callN (envOf Try.prog) 60 9 [.complex .f64 23 12] (Canon.start Try.prog)) = true := by kernel_rfl
theorem PredForms_13 : isTrue (callN (envOf Try.prog) 60 9 [.complex .f64 23 13] (Canon.start Try.prog)) = true := by kernel_rfl
theorem PredForms_14 : isTrue (callN (envOf Try.prog) 60 9 [.complex .f64 23 14] (Canon.start Try.prog)) = true := by kernel_rfl
theorem PredForms_15 : isTrue (callN (envOf Try.prog) 60 9 [.complex .f64 23 15] (Canon.start Try.prog)) = true := by kernel_rfl

end Go.Proofs.Ytagjbgmfeghgnaa
