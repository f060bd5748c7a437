/-
  Rows of PredForms, run.
-/
import Derived.Test.YtagjbgmfeghgnaaCanonV
import Derived.Test.YtagjbgmfeghgnaaProg
import Derived.KernelRfl
namespace Go.Proofs.Ytagjbgmfeghgnaa
open Canon

theorem PredForms_16 : isTrue (callN (envOf Try.prog) 60 9 [.complex .f64 23 16] (Canon.start Try.prog)) = true := by kernel_rfl
theorem PredForms_17 : isTrue (callN (envOf Try.prog) 60 9 [.complex .f64 23 17] (Canon.start Try.prog)) = true := by kernel_rfl
theorem PredForms_18 : isTrue (callN (envOf Try.prog) 60 9 [.complex .f64 23 18] (Canon.start Try.prog)) = true := by kernel_rfl
theorem PredForms_19 : isTrue (callN (envOf Try.prog) 60 9 [.complex .f64 23 19] (Canon.start Try.prog)) = true := by kernel_rfl
theorem PredForms_20 : isTrue (callN (envOf Try.prog) 60 9 [.complex .f64 23 20] (Canon.start Try.prog)) = true := by kernel_rfl
theorem PredForms_21 : isTrue (callN (envOf Try.prog) 60 9 [.complex .f64 23 21] (Canon.start Try.prog)) = true := by kernel_rfl
theorem PredForms_22 : isTrue (callN (envOf Try.prog) 60 9 [.complex .f64 23 22] (Canon.start Try.prog)) = true := by kernel_rfl

end Go.Proofs.Ytagjbgmfeghgnaa
