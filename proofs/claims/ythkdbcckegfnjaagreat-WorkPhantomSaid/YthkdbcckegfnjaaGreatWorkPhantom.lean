/-
  The walk of WorkPhantom.
-/
import Derived.Test.YthkdbcckegfnjaaGreatFit
import Derived.Test.YthkdbcckegfnjaaGreatWorkPhantomk
import Derived.Test.YthkdbcckegfnjaaGreatWorkPhantomm
import Derived.Test.YthkdbcckegfnjaaGreatWorkPhantomp
import Derived.Test.YthkdbcckegfnjaaGreatWorkPhantomq
import Derived.Test.YthkdbcckegfnjaaGreatWorkPhantomr
import Derived.Test.YthkdbcckegfnjaaGreatWorkPhantomaa
import Derived.Test.YthkdbcckegfnjaaGreatWorkPhantomab
import Derived.Test.YthkdbcckegfnjaaGreatWorkPhantomac
import Derived.Test.YthkdbcckegfnjaaGreatWorkPhantomad
import Derived.Test.YthkdbcckegfnjaaGreatWorkPhantomae
import Derived.Test.YthkdbcckegfnjaaGreatWorkPhantomaf
import Derived.Test.YthkdbcckegfnjaaGreatWorkPhantomba
import Derived.Test.YthkdbcckegfnjaaGreatWorkPhantombb
import Derived.Test.YthkdbcckegfnjaaGreatWorkPhantombc
import Derived.Test.YthkdbcckegfnjaaGreatWorkPhantombd
import Derived.Test.YthkdbcckegfnjaaGreatWorkPhantombe
import Derived.Test.YthkdbcckegfnjaaGreatWorkPhantombf
namespace Go.Proofs.YthkdbcckegfnjaaGreat
set_option linter.unusedVariables false
open Canon Go.RowKit

theorem WorkPhantom_rows : ∀ k, k < 64 → isTrue (callN (Canon.envK Tryz.prog 11) 60 4 (mk_WorkPhantom k) (Canon.start Tryz.prog)) = true :=
  (nextT (nextT (nextT (nextT (nextT (nextT (nextT (nextT (nextT (nextT (nextT (nextT (nextT (nextT (nextT (nextT (nextT (nextT (nextT (nextT (nextT (nextT (nextT (nextT (nextT (nextT (nextT (nextT (nextT (nextT (nextT (nextT (nextY (nextY (nextY (nextY (nextY (nextY (nextY (nextY (nextY (nextY (nextY (nextY (nextY (nextY (nextY (nextY (nextY (nextY (nextY (nextY (nextY (nextY (nextY (nextY (nextY (nextY (nextY (nextY (nextY (nextY (nextY (nextY none_ok WorkPhantom_0) WorkPhantom_1) WorkPhantom_2) WorkPhantom_3) WorkPhantom_4) WorkPhantom_5) WorkPhantom_6) WorkPhantom_7) WorkPhantom_8) WorkPhantom_9) WorkPhantom_10) WorkPhantom_11) WorkPhantom_12) WorkPhantom_13) WorkPhantom_14) WorkPhantom_15) WorkPhantom_16) WorkPhantom_17) WorkPhantom_18) WorkPhantom_19) WorkPhantom_20) WorkPhantom_21) WorkPhantom_22) WorkPhantom_23) WorkPhantom_24) WorkPhantom_25) WorkPhantom_26) WorkPhantom_27) WorkPhantom_28) WorkPhantom_29) WorkPhantom_30) WorkPhantom_31) ph4_tb_ok WorkPhantom_32) ph4_tb_ok WorkPhantom_33) ph4_tb_ok WorkPhantom_34) ph4_tb_ok WorkPhantom_35) ph4_tb_ok WorkPhantom_36) ph4_tb_ok WorkPhantom_37) ph4_tb_ok WorkPhantom_38) ph4_tb_ok WorkPhantom_39) ph5_tb_ok WorkPhantom_40) ph5_tb_ok WorkPhantom_41) ph5_tb_ok WorkPhantom_42) ph5_tb_ok WorkPhantom_43) ph5_tb_ok WorkPhantom_44) ph5_tb_ok WorkPhantom_45) ph5_tb_ok WorkPhantom_46) ph5_tb_ok WorkPhantom_47) ph6_tb_ok WorkPhantom_48) ph6_tb_ok WorkPhantom_49) ph6_tb_ok WorkPhantom_50) ph6_tb_ok WorkPhantom_51) ph6_tb_ok WorkPhantom_52) ph6_tb_ok WorkPhantom_53) ph6_tb_ok WorkPhantom_54) ph6_tb_ok WorkPhantom_55) ph7_tb_ok WorkPhantom_56) ph7_tb_ok WorkPhantom_57) ph7_tb_ok WorkPhantom_58) ph7_tb_ok WorkPhantom_59) ph7_tb_ok WorkPhantom_60) ph7_tb_ok WorkPhantom_61) ph7_tb_ok WorkPhantom_62) ph7_tb_ok WorkPhantom_63)

theorem WorkPhantom_body : hasBody Tryz.prog 4 = true := by kernel_rfl

theorem walk_WorkPhantom (a0 : Int) (a1 : Int) (a2 : Bool) (w0 : (Lit.int .i64 a0).wf = true) (w1 : (Lit.int .i64 a1).wf = true) (w : World) :
    Calls Tryz.prog 4 #[.int .i64 a0, .int .i64 a1, .bool a2] w fun e w' => e = .returned (.bool true) ∧ Below w.heap.size w w' := by
  obtain ⟨k0, l0, h0⟩ := sym_int a0 8 (by decide)
  obtain ⟨k1, l1, h1⟩ := sym_int a1 4 (by decide)
  obtain ⟨k2, l2, e2⟩ : ∃ k : Nat, k < 2 ∧ a2 = Nat.beq k 1 := by
    cases a2
    · exact ⟨0, by omega, rfl⟩
    · exact ⟨1, by omega, rfl⟩
  subst e2
  have hr := WorkPhantom_rows (k0 * 8 + k1 * 2 + k2) (by omega)
  have q0 : (k0 * 8 + k1 * 2 + k2) / 8 % 8 = k0 := by omega
  have q1 : (k0 * 8 + k1 * 2 + k2) / 2 % 4 = k1 := by omega
  have q2 : (k0 * 8 + k1 * 2 + k2) / 1 % 2 = k2 := by omega
  have hm : mk_WorkPhantom (k0 * 8 + k1 * 2 + k2) = [.complex .f64 8 k0, .complex .f64 4 k1, .bool (Nat.beq k2 1)] := by
    unfold mk_WorkPhantom
    simp only [fNat_eq, q0, q1, q2]
  rw [hm] at hr
  exact fit.argsK WorkPhantom_awake WorkPhantom_body (fun c => (LR.cons (h0 _ _ _) (LR.cons (h1 _ _ _) (LR.cons (VR.bool _) LR.nil)))) hr w

end Go.Proofs.YthkdbcckegfnjaaGreat
