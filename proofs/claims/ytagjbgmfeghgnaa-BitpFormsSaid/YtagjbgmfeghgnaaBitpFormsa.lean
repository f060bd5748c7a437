/-
  Rows of BitpForms, run.
-/
import Derived.Test.YtagjbgmfeghgnaaCanonV
import Derived.Test.YtagjbgmfeghgnaaProg
import Derived.KernelRfl
namespace Go.Proofs.Ytagjbgmfeghgnaa
open Canon

theorem BitpForms_0 : isTrue (callN (envOf Try.prog) 60 3 [.complex .f64 12 0] (Canon.start Try.prog)) = true := by kernel_rfl
theorem BitpForms_1 : isTrue (callN (envOf Try.prog) 60 3 [.complex .f64 12 1] (Canon.start Try.prog)) = true := by kernel_rfl
theorem BitpForms_2 : isTrue (callN (envOf Try.prog) 60 3 [.complex .f64 12 2] (Canon.start Try.prog)) = true := by kernel_rfl
theorem BitpForms_3 : isTrue (callN (envOf Try.prog) 60 3 [.complex .f64 12 3] (Canon.start Try.prog)) = true := by kernel_rfl
theorem BitpForms_4 : isTrue (callN (envOf Try.prog) 60 3 [.complex .f64 12 4] (Canon.start Try.prog)) = true := by kernel_rfl
theorem BitpForms_5 : isTrue (callN (envOf Try.prog) 60 3 [.complex .f64 12 5] (Canon.start Try.prog)) = true := by kernel_rfl
theorem BitpForms_6 : isTrue (callN (envOf Try.prog) 60 3 [.complex .f64 12 6] (Canon.start Try.prog)) = true := by kernel_rfl
theorem BitpForms_7 : isTrue (callN (envOf Try.prog) 60 3 [.complex .f64 12 7] (Canon.start Try.prog)) = true := by kernel_rfl
theorem BitpForms_8 : isTrue (callN (envOf Try.prog) 60 3 [.complex .f64 12 8] (Canon.start Try.prog)) = true := by kernel_rfl
theorem BitpForms_9 : isTrue (callN (envOf Try.prog) 60 3 [.complex .f64 12 9] (Canon.start Try.prog)) = true := by kernel_rfl
theorem BitpForms_10 : isTrue (callN (envOf Try.prog) 60 3 [.complex .f64 12 10] (Canon.start Try.prog)) = true := by kernel_rfl
theorem BitpForms_11 : isTrue (callN (envOf Try.prog) 60 3 [.complex .f64 12 11] (Canon.start Try.prog)) = true := by kernel_rfl

end Go.Proofs.Ytagjbgmfeghgnaa
