/-
  Rows of ZoneForms, run.
-/
import Derived.Test.YtagjbgmfeghgnaaCanonV
import Derived.Test.YtagjbgmfeghgnaaProg
import Derived.KernelRfl
namespace Go.Proofs.Ytagjbgmfeghgnaa
open Canon

theorem ZoneForms_0 : isTrue (callN (envOf Try.prog) 60 11 [.complex .f64 13 0] (Canon.start Try.prog)) = true := by kernel_rfl
theorem ZoneForms_1 : isTrue (callN (envOf Try.prog) 60 11 [.complex .f64 13 1] (Canon.start Try.prog)) = true := by kernel_rfl
theorem ZoneForms_2 : isTrue (callN (envOf Try.prog) 60 11 [.complex .f64 13 2] (Canon.start Try.prog)) = true := by kernel_rfl
theorem ZoneForms_3 : isTrue (callN (envOf Try.prog) 60 11 [.complex .f64 13 3] (Canon.start Try.prog)) = true := by kernel_rfl
theorem ZoneForms_4 : isTrue (callN (envOf Try.prog) 60 11 [.complex .f64 13 4] (Canon.start Try.prog)) = true := by kernel_rfl
theorem ZoneForms_5 : isTrue (callN (envOf Try.prog) 60 11 [.complex .f64 13 5] (Canon.start Try.prog)) = true := by kernel_rfl
theorem ZoneForms_6 : isTrue (callN (envOf Try.prog) 60 11 [.complex .f64 13 6] (Canon.start Try.prog)) = true := by kernel_rfl

end Go.Proofs.Ytagjbgmfeghgnaa
