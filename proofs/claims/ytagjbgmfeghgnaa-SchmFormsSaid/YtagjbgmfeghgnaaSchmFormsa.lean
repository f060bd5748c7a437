/-
  Rows of SchmForms, run.
-/
import Derived.Test.YtagjbgmfeghgnaaCanonV
import Derived.Test.YtagjbgmfeghgnaaProg
import Derived.KernelRfl
namespace Go.Proofs.Ytagjbgmfeghgnaa
open Canon

theorem SchmForms_0 : isTrue (callN (envOf Try.prog) 60 8 [.complex .f64 15 0] (Canon.start Try.prog)) = true := by kernel_rfl
theorem SchmForms_1 : isTrue (callN (envOf Try.prog) 60 8 [.complex .f64 15 1] (Canon.start Try.prog)) = true := by kernel_rfl
theorem SchmForms_2 : isTrue (callN (envOf Try.prog) 60 8 [.complex .f64 15 2] (Canon.start Try.prog)) = true := by kernel_rfl
theorem SchmForms_3 : isTrue (callN (envOf Try.prog) 60 8 [.complex .f64 15 3] (Canon.start Try.prog)) = true := by kernel_rfl
theorem SchmForms_4 : isTrue (callN (envOf Try.prog) 60 8 [.complex .f64 15 4] (Canon.start Try.prog)) = true := by kernel_rfl
theorem SchmForms_5 : isTrue (callN (envOf Try.prog) 60 8 [.complex .f64 15 5] (Canon.start Try.prog)) = true := by kernel_rfl
theorem SchmForms_6 : isTrue (callN (envOf Try.prog) 60 8 [.complex .f64 15 6] (Canon.start Try.prog)) = true := by kernel_rfl
theorem SchmForms_7 : isTrue (callN (envOf Try.prog) 60 8 [.complex .f64 15 7] (Canon.start Try.prog)) = true := by kernel_rfl

end Go.Proofs.Ytagjbgmfeghgnaa
