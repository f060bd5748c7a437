/-
  Rows of StamForms, run.
-/
import Derived.Test.YtagjbgmfeghgnaaCanonV
import Derived.Test.YtagjbgmfeghgnaaProg
import Derived.KernelRfl
namespace Go.Proofs.Ytagjbgmfeghgnaa
open Canon

theorem StamForms_0 : isTrue (callN (envOf Try.prog) 60 12 [.complex .f64 19 0] (Canon.start Try.prog)) = true := by kernel_rfl
theorem StamForms_1 : isTrue (callN (envOf Try.prog) 60 12 [.complex .f64 19 1] (Canon.start Try.prog)) = true := by kernel_rfl
theorem StamForms_2 : isTrue (callN (envOf Try.prog) 60 12 [.complex .f64 19 2] (Canon.start Try.prog)) = true := by kernel_rfl
theorem StamForms_3 : isTrue (callN (envOf Try.prog) 60 12 [.complex .f64 19 3] (Canon.start Try.prog)) = true := by kernel_rfl
theorem StamForms_4 : isTrue (callN (envOf Try.prog) 60 12 [.complex .f64 19 4] (Canon.start Try.prog)) = true := by kernel_rfl
theorem StamForms_5 : isTrue (callN (envOf Try.prog) 60 12 [.complex .f64 19 5] (Canon.start Try.prog)) = true := by kernel_rfl
theorem StamForms_6 : isTrue (callN (envOf Try.prog) 60 12 [.complex .f64 19 6] (Canon.start Try.prog)) = true := by kernel_rfl

end Go.Proofs.Ytagjbgmfeghgnaa
