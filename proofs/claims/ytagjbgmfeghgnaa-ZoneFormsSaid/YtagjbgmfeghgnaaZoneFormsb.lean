/-
  Rows of ZoneForms, run.
-/
import Derived.Test.YtagjbgmfeghgnaaCanonV
import Derived.Test.YtagjbgmfeghgnaaProg
import Derived.KernelRfl
namespace Go.Proofs.Ytagjbgmfeghgnaa
open Canon

theorem ZoneForms_7 : isTrue (callN (envOf Try.prog) 60 11 [.complex .f64 13 7] (Canon.start Try.prog)) = true := by kernel_rfl
theorem ZoneForms_8 : isTrue (callN (envOf Try.prog) 60 11 [.complex .f64 13 8] (Canon.start Try.prog)) = true := by kernel_rfl
theorem ZoneForms_9 : isTrue (callN (envOf Try.prog) 60 11 [.complex .f64 13 9] (Canon.start Try.prog)) = true := by kernel_rfl
theorem ZoneForms_10 : isTrue (callN (envOf Try.prog) 60 11 [.complex .f64 13 10] (Canon.start Try.prog)) = true := by kernel_rfl
theorem ZoneForms_11 : isTrue (callN (envOf Try.prog) 60 11 [.complex .f64 13 11] (Canon.start Try.prog)) = true := by kernel_rfl
theorem ZoneForms_12 : isTrue (callN (envOf Try.prog) 60 11 [.complex .f64 13 12] (Canon.start Try.prog)) = true := by kernel_rfl

end Go.Proofs.Ytagjbgmfeghgnaa
