/-
  The walk of RondBounds.
-/
import Derived.Test.YthlfcjpjhajaaaaGreatFit
import Derived.Test.YthlfcjpjhajaaaaGreatRondBoundsm
import Derived.Test.YthlfcjpjhajaaaaGreatRondBoundsk
import Derived.Test.YthlfcjpjhajaaaaGreatRondBoundsaa
import Derived.Test.YthlfcjpjhajaaaaGreatRondBoundsab
import Derived.Test.YthlfcjpjhajaaaaGreatRondBoundsac
namespace Go.Proofs.YthlfcjpjhajaaaaGreat
set_option linter.unusedVariables false
open Canon Go.RowKit

theorem RondBounds_rows : ∀ k, k < 6 → isTrue (callN (Canon.envK Tryz.prog 48) 60 9 (mk_RondBounds k) (Canon.start Tryz.prog)) = true :=
  (nextY (nextY (nextY (nextY (nextY (nextY none_ok RondBounds_0) RondBounds_1) RondBounds_2) RondBounds_3) RondBounds_4) RondBounds_5)

theorem RondBounds_body : hasBody Tryz.prog 9 = true := by kernel_rfl

theorem walk_RondBounds (a0 : Int) (a1 : Int) (w0 : (Lit.int .i64 a0).wf = true) (w1 : (Lit.int .i64 a1).wf = true) (w : World) :
    Calls Tryz.prog 9 #[.int .i64 a0, .int .i64 a1] w fun e w' => e = .returned (.bool true) ∧ Below w.heap.size w w' := by
  have b0 := wf_range w0
  have b1 := wf_range w1
  have v0 : (vals_RondBounds a0 a1 0 0 0 : Int) = a0 + 9223372036854775808 := by unfold vals_RondBounds; rw [if_pos rfl]; omega
  have v1 : (vals_RondBounds a0 a1 0 0 1 : Int) = a1 + 9223372036854775808 := by unfold vals_RondBounds; rw [if_neg (by decide), if_pos rfl]; omega
  obtain ⟨i, hi, h0⟩ : ∃ i, i < 3 ∧ VR (zId Tryz.prog) (symCtx (vals_RondBounds a0 a1 0 0)) (symDom Tryz.prog) (opsV i) (.int .i64 a0) := by
    rcases (by omega : a0 < 0 ∨ (0 ≤ a0 ∧ a0 ≤ 10000) ∨ 10000 < a0) with h | h | h
    · exact ⟨0, by omega, sym_named v0 opsA_is ⟨by omega, by omega⟩⟩
    · exact ⟨1, by omega, sym_named v0 opsB_is ⟨by omega, by omega⟩⟩
    · exact ⟨2, by omega, sym_named v0 opsC_is ⟨by omega, by omega⟩⟩
  obtain ⟨j, hj, h1⟩ : ∃ j, j < 2 ∧ VR (zId Tryz.prog) (symCtx (vals_RondBounds a0 a1 0 0)) (symDom Tryz.prog) (mostV j) (.int .i64 a1) := by
    rcases (by omega : a1 ≤ 0 ∨ 0 < a1) with h | h
    · exact ⟨0, by omega, sym_named v1 mostA_is ⟨by omega, by omega⟩⟩
    · exact ⟨1, by omega, sym_named v1 mostB_is ⟨by omega, by omega⟩⟩
  have hr := RondBounds_rows (i * 2 + j) (by omega)
  have q0 : (i * 2 + j) / 2 % 3 = i := by omega
  have q1 : (i * 2 + j) % 2 = j := by omega
  have hm : mk_RondBounds (i * 2 + j) = [opsV i, mostV j] := by
    unfold mk_RondBounds
    simp only [fNat_eq, q0, q1]
  rw [hm] at hr
  exact fit.symK RondBounds_awake RondBounds_body (vals_RondBounds a0 a1 0 0) (LR.cons h0 (LR.cons h1 LR.nil)) hr w

end Go.Proofs.YthlfcjpjhajaaaaGreat
