/-
  Rows of AggrForms, run.
-/
import Derived.Test.YtagjbgmfeghgnaaCanonV
import Derived.Test.YtagjbgmfeghgnaaProg
import Derived.KernelRfl
namespace Go.Proofs.Ytagjbgmfeghgnaa
open Canon

theorem AggrForms_5 : isTrue (callN (envOf Try.prog) 60 14 [.complex .f64 10 5] (Canon.start Try.prog)) = true := by kernel_rfl
theorem AggrForms_6 : isTrue (callN (envOf Try.prog) 60 14 [.complex .f64 10 6] (Canon.start Try.prog)) = true := by kernel_rfl
theorem AggrForms_7 : isTrue (callN (envOf Try.prog) 60 14 [.complex .f64 10 7] (Canon.start Try.prog)) = true := by kernel_rfl
theorem AggrForms_8 : isTrue (callN (envOf Try.prog) 60 14 [.complex .f64 10 8] (Canon.start Try.prog)) = true := by kernel_rfl
theorem AggrForms_9 : isTrue (callN (envOf Try.prog) 60 14 [.complex .f64 10 9] (Canon.start Try.prog)) = true := by kernel_rfl

end Go.Proofs.Ytagjbgmfeghgnaa
