/-
  Contracts of pred's isZero, isCol, cmpOk, shapeOk.
-/
import Derived.Test.YtfmkalnnpddefaaPokm
import Derived.Deep.CutBlock
import Derived.Deep.DeepCutAuto
namespace Go.Proofs.Ytfmkalnnpddefaa
set_option linter.unusedVariables false
set_option linter.unusedSimpArgs false
open Go.RowKit

set_option maxRecDepth 100000 in
set_option maxHeartbeats 8000000 in
theorem isZero_any (p : Vc × Value) (w : World) (hp : OkV w p) :
    Calls Try.prog 158 #[aggV p] w fun e w' => e = .returned (.bool (isZ p.1)) ∧ Below w.heap.size w w' := by
  obtain ⟨ao, cap, hs⟩ := rd_shape8 hp.1
  obtain ⟨⟨u, k, n, b⟩, s⟩ := p
  simp only at hs
  subst hs
  obtain ⟨L, hL⟩ : ∃ L, L = b.length := ⟨_, rfl⟩
  have HF := Lib.hid (show isZ ⟨u, k, n, b⟩ = (!u && (k == 0) && (n == 0) && (L == 0)) by unfold isZ; simp only; rw [hL])
  unfold aggV
  simp only
  rw [← hL]
  have hl : ((L : Int) == 0) = (L == 0) := by rw [Bool.eq_iff_iff, beq_iff_eq, beq_iff_eq]; omega
  clear hp hL
  cases u
  · cases hk : (k == 0)
    · go_enter Try.func158, Try.ntmps158
      go_wp2_with fail
      go_ret
      exact ⟨by rw [HF.out, hk]; rfl, below_alloc w _⟩
    · cases hn : (n == 0)
      · go_enter Try.func158, Try.ntmps158
        go_wp2_with fail
        go_ret
        exact ⟨by rw [HF.out, hk, hn]; rfl, below_alloc w _⟩
      · go_enter Try.func158, Try.ntmps158
        go_wp2_with fail
        go_ret
        exact ⟨by rw [HF.out, hk, hn]; simp [hl], below_alloc w _⟩
  · go_enter Try.func158, Try.ntmps158
    go_wp2_with fail
    go_ret
    exact ⟨by rw [HF.out]; rfl, below_alloc w _⟩

set_option maxRecDepth 100000 in
set_option maxHeartbeats 8000000 in
theorem isCol_any (cols : List Co) (sv : Value) (c : Int) (w : World) (hv : RdC w sv cols) :
    Calls Try.prog 160 #[.agg #[sv], .int .i64 c] w fun e w' => e = .returned (.bool (isColB cols c)) ∧ Below w.heap.size w w' := by
  obtain ⟨sa, sc, rfl⟩ := rdC_shape hv
  obtain ⟨n, hN⟩ : ∃ n, n = cols.length := ⟨_, rfl⟩
  rw [← hN]
  have HF := Lib.hid (show isColB cols c = (decide (0 ≤ c) && decide (c < (n : Int))) by unfold isColB; rw [hN])
  clear hv hN
  cases hc : decide (0 ≤ c)
  · go_enter Try.func160, Try.ntmps160
    go_wp2_with fail
    go_ret
    exact ⟨by rw [HF.out, hc]; rfl, below_alloc w _⟩
  · go_enter Try.func160, Try.ntmps160
    go_wp2_with fail
    go_ret
    exact ⟨by rw [HF.out, hc]; simp, below_alloc w _⟩


end Go.Proofs.Ytfmkalnnpddefaa
