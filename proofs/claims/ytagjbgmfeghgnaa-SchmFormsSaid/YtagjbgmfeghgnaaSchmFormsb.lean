/-
  Rows of SchmForms, run.
-/
import Derived.Test.YtagjbgmfeghgnaaCanonV
import Derived.Test.YtagjbgmfeghgnaaProg
import Derived.KernelRfl
namespace Go.Proofs.Ytagjbgmfeghgnaa
open Canon

theorem SchmForms_8 : isTrue (callN (envOf Try.prog) 60 8 [.complex .f64 15 8] (Canon.start Try.prog)) = true := by kernel_rfl
theorem SchmForms_9 : isTrue (callN (envOf Try.prog) 60 8 [.complex .f64 15 9] (Canon.start Try.prog)) = true := by kernel_rfl
theorem SchmForms_10 : isTrue (callN (envOf Try.prog) 60 8 [.complex .f64 15 10] (Canon.start Try.prog)) = true := by kernel_rfl
theorem SchmForms_11 : isTrue (callN (envOf Try.prog) 60 8 [.complex .f64 15 11] (Canon.start Try.prog)) = true := by kernel_rfl
theorem SchmForms_12 : isTrue (callN (envOf Try.prog) 60 8 [.complex .f64 15 12] (Canon.start Try.prog)) = true := by kernel_rfl
theorem SchmForms_13 : isTrue (callN (envOf Try.prog) 60 8 [.complex .f64 15 13] (Canon.start Try.prog)) = true := by kernel_rfl
theorem SchmForms_14 : isTrue (callN (envOf Try.prog) 60 8 [.complex .f64 15 14] (Canon.start Try.prog)) = true := by kernel_rfl

end Go.Proofs.Ytagjbgmfeghgnaa
