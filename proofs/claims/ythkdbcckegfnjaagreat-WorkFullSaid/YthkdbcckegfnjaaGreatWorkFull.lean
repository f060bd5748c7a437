/-
  The walk of WorkFull.
-/
import Derived.Test.YthkdbcckegfnjaaGreatFit
import Derived.Test.YthkdbcckegfnjaaGreatWorkFullk
import Derived.Test.YthkdbcckegfnjaaGreatWorkFullm
import Derived.Test.YthkdbcckegfnjaaGreatWorkFullaa
import Derived.Test.YthkdbcckegfnjaaGreatWorkFullab
import Derived.Test.YthkdbcckegfnjaaGreatWorkFullac
import Derived.Test.YthkdbcckegfnjaaGreatWorkFullad
import Derived.Test.YthkdbcckegfnjaaGreatWorkFullae
import Derived.Test.YthkdbcckegfnjaaGreatWorkFullaf
import Derived.Test.YthkdbcckegfnjaaGreatWorkFullag
import Derived.Test.YthkdbcckegfnjaaGreatWorkFullah
import Derived.Test.YthkdbcckegfnjaaGreatWorkFullai
import Derived.Test.YthkdbcckegfnjaaGreatWorkFullaj
import Derived.Test.YthkdbcckegfnjaaGreatWorkFullba
import Derived.Test.YthkdbcckegfnjaaGreatWorkFullbb
import Derived.Test.YthkdbcckegfnjaaGreatWorkFullbc
import Derived.Test.YthkdbcckegfnjaaGreatWorkFullbd
import Derived.Test.YthkdbcckegfnjaaGreatWorkFullbe
import Derived.Test.YthkdbcckegfnjaaGreatWorkFullbf
import Derived.Test.YthkdbcckegfnjaaGreatWorkFullbg
import Derived.Test.YthkdbcckegfnjaaGreatWorkFullbh
import Derived.Test.YthkdbcckegfnjaaGreatWorkFullbi
import Derived.Test.YthkdbcckegfnjaaGreatWorkFullbj
import Derived.Test.YthkdbcckegfnjaaGreatWorkFullca
import Derived.Test.YthkdbcckegfnjaaGreatWorkFullt
namespace Go.Proofs.YthkdbcckegfnjaaGreat
set_option linter.unusedVariables false
open Canon Go.RowKit

theorem WorkFull_rows : ∀ k, k < 64 → isTrue (callN (Canon.envK Tryz.prog 11) 60 3 (mk_WorkFull k) (Canon.start Tryz.prog)) = true :=
  (nextT (nextY (nextY (nextY (nextY (nextY (nextY (nextY (nextY (nextY (nextY (nextY (nextY (nextY (nextY (nextY (nextY (nextY (nextY (nextY (nextY (nextY (nextY (nextY (nextY (nextY (nextY (nextY (nextY (nextY (nextY (nextY (nextY (nextY (nextY (nextY (nextY (nextY (nextY (nextY (nextY (nextY (nextY (nextY (nextY (nextY (nextY (nextY (nextY (nextY (nextY (nextY (nextY (nextY (nextY (nextY (nextY (nextY (nextY (nextY (nextY (nextY (nextY (nextY none_ok WorkFull_0) WorkFull_1) WorkFull_2) WorkFull_3) WorkFull_4) WorkFull_5) WorkFull_6) WorkFull_7) WorkFull_8) WorkFull_9) WorkFull_10) WorkFull_11) WorkFull_12) WorkFull_13) WorkFull_14) WorkFull_15) WorkFull_16) WorkFull_17) WorkFull_18) WorkFull_19) WorkFull_20) WorkFull_21) WorkFull_22) WorkFull_23) WorkFull_24) WorkFull_25) WorkFull_26) WorkFull_27) WorkFull_28) WorkFull_29) WorkFull_30) WorkFull_31) WorkFull_32) WorkFull_33) WorkFull_34) WorkFull_35) WorkFull_36) WorkFull_37) WorkFull_38) WorkFull_39) WorkFull_40) WorkFull_41) WorkFull_42) WorkFull_43) WorkFull_44) WorkFull_45) WorkFull_46) WorkFull_47) WorkFull_48) WorkFull_49) WorkFull_50) WorkFull_51) WorkFull_52) WorkFull_53) WorkFull_54) WorkFull_55) WorkFull_56) WorkFull_57) WorkFull_58) WorkFull_59) WorkFull_60) WorkFull_61) WorkFull_62) WorkFullR63_tb_ok WorkFull_63)

theorem WorkFull_body : hasBody Tryz.prog 3 = true := by kernel_rfl

theorem walk_WorkFull (a0 : Int) (a1 : Int) (w0 : (Lit.int .i64 a0).wf = true) (w1 : (Lit.int .i64 a1).wf = true) (w : World) :
    Calls Tryz.prog 3 #[.int .i64 a0, .int .i64 a1] w fun e w' => e = .returned (.bool true) ∧ Below w.heap.size w w' := by
  obtain ⟨k0, l0, h0⟩ := sym_int a0 8 (by decide)
  obtain ⟨k1, l1, h1⟩ := sym_int a1 8 (by decide)
  have hr := WorkFull_rows (k0 * 8 + k1) (by omega)
  have q0 : (k0 * 8 + k1) / 8 % 8 = k0 := by omega
  have q1 : (k0 * 8 + k1) / 1 % 8 = k1 := by omega
  have hm : mk_WorkFull (k0 * 8 + k1) = [.complex .f64 8 k0, .complex .f64 8 k1] := by
    unfold mk_WorkFull
    simp only [fNat_eq, q0, q1]
  rw [hm] at hr
  exact fit.argsK WorkFull_awake WorkFull_body (fun c => (LR.cons (h0 _ _ _) (LR.cons (h1 _ _ _) LR.nil))) hr w

end Go.Proofs.YthkdbcckegfnjaaGreat
