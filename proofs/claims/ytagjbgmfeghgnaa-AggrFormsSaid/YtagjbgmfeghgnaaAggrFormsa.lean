/-
  Rows of AggrForms, run.
-/
import Derived.Test.YtagjbgmfeghgnaaCanonV
import Derived.Test.YtagjbgmfeghgnaaProg
import Derived.KernelRfl
namespace Go.Proofs.Ytagjbgmfeghgnaa
open Canon

theorem AggrForms_0 : isTrue (callN (envOf Try.prog) 60 14 [.complex .f64 10 0] (Canon.start Try.prog)) = true := by kernel_rfl
theorem AggrForms_1 : isTrue (callN (envOf Try.prog) 60 14 [.complex .f64 10 1] (Canon.start Try.prog)) = true := by kernel_rfl
theorem AggrForms_2 : isTrue (callN (envOf Try.prog) 60 14 [.complex .f64 10 2] (Canon.start Try.prog)) = true := by kernel_rfl
theorem AggrForms_3 : isTrue (callN (envOf Try.prog) 60 14 [.complex .f64 10 3] (Canon.start Try.prog)) = true := by kernel_rfl
theorem AggrForms_4 : isTrue (callN (envOf Try.prog) 60 14 [.complex .f64 10 4] (Canon.start Try.prog)) = true := by kernel_rfl

end Go.Proofs.Ytagjbgmfeghgnaa
