/-
  Rows of StamForms, run.
-/
import Derived.Test.YtagjbgmfeghgnaaCanonV
import Derived.Test.YtagjbgmfeghgnaaProg
import Derived.KernelRfl
namespace Go.Proofs.Ytagjbgmfeghgnaa
open Canon

theorem StamForms_7 : isTrue (callN (envOf Try.prog) 60 12 [.complex .f64 19 7] (Canon.start Try.prog)) = true := by kernel_rfl
theorem StamForms_8 : isTrue (callN (envOf Try.prog) 60 12 [.complex .f64 19 8] (Canon.start Try.prog)) = true := by kernel_rfl
theorem StamForms_9 : isTrue (callN (envOf Try.prog) 60 12 [.complex .f64 19 9] (Canon.start Try.prog)) = true := by kernel_rfl
theorem StamForms_10 : isTrue (callN (envOf Try.prog) 60 12 [.complex .f64 19 10] (Canon.start Try.prog)) = true := by kernel_rfl
theorem StamForms_11 : isTrue (callN (envOf Try.prog) 60 12 [.complex .f64 19 11] (Canon.start Try.prog)) = true := by kernel_rfl
theorem StamForms_12 : isTrue (callN (envOf Try.prog) 60 12 [.complex .f64 19 12] (Canon.start Try.prog)) = true := by kernel_rfl
theorem StamForms_13 : isTrue (callN (envOf Try.prog) 60 12 [.complex .f64 19 13] (Canon.start Try.prog)) = true := by kernel_rfl

end Go.Proofs.Ytagjbgmfeghgnaa
