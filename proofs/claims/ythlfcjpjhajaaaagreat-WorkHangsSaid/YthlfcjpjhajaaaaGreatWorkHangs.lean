/-
  The walk of WorkHangs.
-/
import Derived.Test.YthlfcjpjhajaaaaGreatFit
import Derived.Test.YthlfcjpjhajaaaaGreatWorkHangsk
import Derived.Test.YthlfcjpjhajaaaaGreatWorkHangsm
import Derived.Test.YthlfcjpjhajaaaaGreatWorkHangsa
import Derived.Test.YthlfcjpjhajaaaaGreatWorkHangsb
import Derived.Test.YthlfcjpjhajaaaaGreatWorkHangsc
import Derived.Test.YthlfcjpjhajaaaaGreatWorkHangsd
import Derived.Test.YthlfcjpjhajaaaaGreatWorkHangse
import Derived.Test.YthlfcjpjhajaaaaGreatWorkHangsf
import Derived.Test.YthlfcjpjhajaaaaGreatWorkHangsg
import Derived.Test.YthlfcjpjhajaaaaGreatWorkHangsh
namespace Go.Proofs.YthlfcjpjhajaaaaGreat
set_option linter.unusedVariables false
open Canon Go.RowKit

theorem WorkHangs_rows : ∀ k, k < 16 → isTrue (callN (Canon.envK Tryz.prog 32) 60 5 (mk_WorkHangs k) (Canon.start Tryz.prog)) = true :=
  (nextY (nextY (nextY (nextY (nextY (nextY (nextY (nextY (nextY (nextY (nextY (nextY (nextY (nextY (nextY (nextY none_ok WorkHangs_0) WorkHangs_1) WorkHangs_2) WorkHangs_3) WorkHangs_4) WorkHangs_5) WorkHangs_6) WorkHangs_7) WorkHangs_8) WorkHangs_9) WorkHangs_10) WorkHangs_11) WorkHangs_12) WorkHangs_13) WorkHangs_14) WorkHangs_15)

theorem WorkHangs_body : hasBody Tryz.prog 5 = true := by kernel_rfl

theorem walk_WorkHangs (a0 : Bool) (a1 : Int) (w0 : (Lit.int .i64 a1).wf = true) (w : World) :
    Calls Tryz.prog 5 #[.bool a0, .int .i64 a1] w fun e w' => e = .returned (.bool true) ∧ Below w.heap.size w w' := by
  obtain ⟨k0, l0, e0⟩ : ∃ k : Nat, k < 2 ∧ a0 = Nat.beq k 1 := by
    cases a0
    · exact ⟨0, by omega, rfl⟩
    · exact ⟨1, by omega, rfl⟩
  subst e0
  obtain ⟨k1, l1, h1⟩ := sym_int a1 8 (by decide)
  have hr := WorkHangs_rows (k0 * 8 + k1) (by omega)
  have q0 : (k0 * 8 + k1) / 8 % 2 = k0 := by omega
  have q1 : (k0 * 8 + k1) / 1 % 8 = k1 := by omega
  have hm : mk_WorkHangs (k0 * 8 + k1) = [.bool (Nat.beq k0 1), .complex .f64 8 k1] := by
    unfold mk_WorkHangs
    simp only [fNat_eq, q0, q1]
  rw [hm] at hr
  exact fit.argsK WorkHangs_awake WorkHangs_body (fun c => (LR.cons (VR.bool _) (LR.cons (h1 _ _ _) LR.nil))) hr w

end Go.Proofs.YthlfcjpjhajaaaaGreat
