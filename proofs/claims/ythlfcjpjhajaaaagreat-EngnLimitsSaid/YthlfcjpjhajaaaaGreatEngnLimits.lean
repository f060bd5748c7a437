/-
  The walk of EngnLimits.
-/
import Derived.Test.YthlfcjpjhajaaaaGreatFit
import Derived.Test.YthlfcjpjhajaaaaGreatEngnLimitsm
import Derived.Test.YthlfcjpjhajaaaaGreatEngnLimitsk
import Derived.Test.YthlfcjpjhajaaaaGreatEngnLimitsaa
import Derived.Test.YthlfcjpjhajaaaaGreatEngnLimitsab
import Derived.Test.YthlfcjpjhajaaaaGreatEngnLimitsac
import Derived.Test.YthlfcjpjhajaaaaGreatEngnLimitsad
import Derived.Test.YthlfcjpjhajaaaaGreatEngnLimitsae
import Derived.Test.YthlfcjpjhajaaaaGreatEngnLimitsaf
import Derived.Test.YthlfcjpjhajaaaaGreatEngnLimitsag
import Derived.Test.YthlfcjpjhajaaaaGreatEngnLimitsah
import Derived.Test.YthlfcjpjhajaaaaGreatEngnLimitsai
import Derived.Test.YthlfcjpjhajaaaaGreatEngnLimitsaj
import Derived.Test.YthlfcjpjhajaaaaGreatEngnLimitsba
import Derived.Test.YthlfcjpjhajaaaaGreatEngnLimitsbb
namespace Go.Proofs.YthlfcjpjhajaaaaGreat
set_option linter.unusedVariables false
open Canon Go.RowKit

theorem EngnLimits_rows : ∀ k, k < 60 → isTrue (callN (Canon.envK Tryz.prog 43) 60 8 (mk_EngnLimits k) (Canon.start Tryz.prog)) = true :=
  (nextY (nextY (nextY (nextY (nextY (nextY (nextY (nextY (nextY (nextY (nextY (nextY (nextY (nextY (nextY (nextY (nextY (nextY (nextY (nextY (nextY (nextY (nextY (nextY (nextY (nextY (nextY (nextY (nextY (nextY (nextY (nextY (nextY (nextY (nextY (nextY (nextY (nextY (nextY (nextY (nextY (nextY (nextY (nextY (nextY (nextY (nextY (nextY (nextY (nextY (nextY (nextY (nextY (nextY (nextY (nextY (nextY (nextY (nextY (nextY none_ok EngnLimits_0) EngnLimits_1) EngnLimits_2) EngnLimits_3) EngnLimits_4) EngnLimits_5) EngnLimits_6) EngnLimits_7) EngnLimits_8) EngnLimits_9) EngnLimits_10) EngnLimits_11) EngnLimits_12) EngnLimits_13) EngnLimits_14) EngnLimits_15) EngnLimits_16) EngnLimits_17) EngnLimits_18) EngnLimits_19) EngnLimits_20) EngnLimits_21) EngnLimits_22) EngnLimits_23) EngnLimits_24) EngnLimits_25) EngnLimits_26) EngnLimits_27) EngnLimits_28) EngnLimits_29) EngnLimits_30) EngnLimits_31) EngnLimits_32) EngnLimits_33) EngnLimits_34) EngnLimits_35) EngnLimits_36) EngnLimits_37) EngnLimits_38) EngnLimits_39) EngnLimits_40) EngnLimits_41) EngnLimits_42) EngnLimits_43) EngnLimits_44) EngnLimits_45) EngnLimits_46) EngnLimits_47) EngnLimits_48) EngnLimits_49) EngnLimits_50) EngnLimits_51) EngnLimits_52) EngnLimits_53) EngnLimits_54) EngnLimits_55) EngnLimits_56) EngnLimits_57) EngnLimits_58) EngnLimits_59)

theorem EngnLimits_body : hasBody Tryz.prog 8 = true := by kernel_rfl

theorem walk_EngnLimits (a0 : Int) (a1 : Int) (a2 : Int) (a3 : Int) (w0 : (Lit.int .i64 a0).wf = true) (w1 : (Lit.int .i64 a1).wf = true) (w2 : (Lit.int .i64 a2).wf = true) (w3 : (Lit.int .i64 a3).wf = true) (w : World) :
    Calls Tryz.prog 8 #[.int .i64 a0, .int .i64 a1, .int .i64 a2, .int .i64 a3] w fun e w' => e = .returned (.bool true) ∧ Below w.heap.size w w' := by
  have b0 := wf_range w0
  have b1 := wf_range w1
  have b2 := wf_range w2
  have b3 := wf_range w3
  have v0 : (vals_EngnLimits a0 a1 a2 a3 0 : Int) = a0 + 9223372036854775808 := by unfold vals_EngnLimits; rw [if_pos rfl]; omega
  have v1 : (vals_EngnLimits a0 a1 a2 a3 1 : Int) = a1 + 9223372036854775808 := by unfold vals_EngnLimits; rw [if_neg (by decide), if_pos rfl]; omega
  have v2 : (vals_EngnLimits a0 a1 a2 a3 2 : Int) = a2 + 9223372036854775808 := by unfold vals_EngnLimits; rw [if_neg (by decide), if_neg (by decide), if_pos rfl]; omega
  have v3 : (vals_EngnLimits a0 a1 a2 a3 3 : Int) = a3 + 9223372036854775808 := by unfold vals_EngnLimits; rw [if_neg (by decide), if_neg (by decide), if_neg (by decide)]; omega
  have h0 : VR (zId Tryz.prog) (symCtx (vals_EngnLimits a0 a1 a2 a3)) (symDom Tryz.prog) (.chan (some deltaA)) (.int .i64 a0) := sym_named v0 deltaA_is ⟨by omega, by omega⟩
  have h1 : VR (zId Tryz.prog) (symCtx (vals_EngnLimits a0 a1 a2 a3)) (symDom Tryz.prog) (.chan (some groupsA)) (.int .i64 a1) := sym_named v1 groupsA_is ⟨by omega, by omega⟩
  obtain ⟨i, hi, h2⟩ : ∃ i, i < 10 ∧ VR (zId Tryz.prog) (symCtx (vals_EngnLimits a0 a1 a2 a3)) (symDom Tryz.prog) (clientV i) (.int .i64 a2) := by
    rcases (by omega : a2 < 0 ∨ a2 = 0 ∨ a2 = 1 ∨ a2 = 2 ∨ a2 = 3 ∨ a2 = 4 ∨ a2 = 5 ∨ a2 = 6 ∨ a2 = 7 ∨ 8 ≤ a2) with h | rfl | rfl | rfl | rfl | rfl | rfl | rfl | rfl | h
    · exact ⟨0, by omega, sym_named v2 clientA_is ⟨by omega, by omega⟩⟩
    · exact ⟨1, by omega, .int _ _⟩
    · exact ⟨2, by omega, .int _ _⟩
    · exact ⟨3, by omega, .int _ _⟩
    · exact ⟨4, by omega, .int _ _⟩
    · exact ⟨5, by omega, .int _ _⟩
    · exact ⟨6, by omega, .int _ _⟩
    · exact ⟨7, by omega, .int _ _⟩
    · exact ⟨8, by omega, .int _ _⟩
    · exact ⟨9, by omega, sym_named v2 clientB_is ⟨by omega, by omega⟩⟩
  obtain ⟨g, hg, h1, h3⟩ : ∃ g, g < 6 ∧ VR (zId Tryz.prog) (symCtx (vals_EngnLimits a0 a1 a2 a3)) (symDom Tryz.prog) (groupsV g) (.int .i64 a1) ∧ VR (zId Tryz.prog) (symCtx (vals_EngnLimits a0 a1 a2 a3)) (symDom Tryz.prog) (kindV g) (.int .i64 a3) := by
    rcases (by omega : a3 ≤ 0 ∨ a3 = 1 ∨ a3 = 2 ∨ a3 = 3 ∨ 4 ≤ a3) with h | rfl | rfl | rfl | h
    · exact ⟨0, by omega, h1, sym_named v3 kindA_is ⟨by omega, by omega⟩⟩
    · rcases (by omega : a1 ≤ 0 ∨ 1 ≤ a1) with h | h
      · exact ⟨1, by omega, sym_named v1 groupsB_is ⟨by omega, by omega⟩, .int _ _⟩
      · exact ⟨2, by omega, sym_named v1 groupsC_is ⟨by omega, by omega⟩, .int _ _⟩
    · exact ⟨3, by omega, h1, .int _ _⟩
    · exact ⟨4, by omega, h1, .int _ _⟩
    · exact ⟨5, by omega, h1, sym_named v3 kindB_is ⟨by omega, by omega⟩⟩
  have hr := EngnLimits_rows (i * 6 + g) (by omega)
  have q0 : (i * 6 + g) / 6 % 10 = i := by omega
  have q1 : (i * 6 + g) % 6 = g := by omega
  have hm : mk_EngnLimits (i * 6 + g) = [.chan (some deltaA), groupsV g, clientV i, kindV g] := by
    unfold mk_EngnLimits
    simp only [fNat_eq, q0, q1]
  rw [hm] at hr
  exact fit.symK EngnLimits_awake EngnLimits_body (vals_EngnLimits a0 a1 a2 a3) (LR.cons h0 (LR.cons h1 (LR.cons h2 (LR.cons h3 LR.nil)))) hr w

end Go.Proofs.YthlfcjpjhajaaaaGreat
