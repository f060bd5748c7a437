/-
  Rows of StamForms, run.
-/
import Derived.Test.YtagjbgmfeghgnaaCanonV
import Derived.Test.YtagjbgmfeghgnaaProg
import Derived.KernelRfl
namespace Go.Proofs.Ytagjbgmfeghgnaa
open Canon

theorem StamForms_14 : isTrue (callN (envOf Try.prog) 60 12 [.complex .f64 19 14] (Canon.start Try.prog)) = true := by kernel_rfl
theorem StamForms_15 : isTrue (callN (envOf Try.prog) 60 12 [.complex .f64 19 15] (Canon.start Try.prog)) = true := by kernel_rfl
theorem StamForms_16 : isTrue (callN (envOf Try.prog) 60 12 [.complex .f64 19 16] (Canon.start Try.prog)) = true := by kernel_rfl
theorem StamForms_17 : isTrue (callN (envOf Try.prog) 60 12 [.complex .f64 19 17] (Canon.start Try.prog)) = true := by kernel_rfl
theorem StamForms_18 : isTrue (callN (envOf Try.prog) 60 12 [.complex .f64 19 18] (Canon.start Try.prog)) = true := by kernel_rfl

end Go.Proofs.Ytagjbgmfeghgnaa
