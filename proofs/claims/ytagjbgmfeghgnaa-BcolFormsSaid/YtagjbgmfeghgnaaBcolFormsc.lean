/-
  Rows of BcolForms, run.
-/
import Derived.Test.YtagjbgmfeghgnaaCanonV
import Derived.Test.YtagjbgmfeghgnaaProg
import Derived.KernelRfl
namespace Go.Proofs.Ytagjbgmfeghgnaa
open Canon

theorem BcolForms_12 : isTrue (callN (envOf Try.prog) 60 7 [.complex .f64 17 12] (Canon.start Try.prog)) = true := by kernel_rfl
theorem BcolForms_13 : isTrue (callN (envOf Try.prog) 60 7 [.complex .f64 17 13] (Canon.start Try.prog)) = true := by kernel_rfl
theorem BcolForms_14 : isTrue (callN (envOf Try.prog) 60 7 [.complex .f64 17 14] (Canon.start Try.prog)) = true := by kernel_rfl
theorem BcolForms_15 : isTrue (callN (envOf Try.prog) 60 7 [.complex .f64 17 15] (Canon.start Try.prog)) = true := by kernel_rfl
theorem BcolForms_16 : isTrue (callN (envOf Try.prog) 60 7 [.complex .f64 17 16] (Canon.start Try.prog)) = true := by kernel_rfl

end Go.Proofs.Ytagjbgmfeghgnaa
