/-
  Contracts of the reference's zero and Value.
-/
import Derived.Test.YtfmkalnnpddefaaOka
namespace Go.Proofs.Ytfmkalnnpddefaa
set_option linter.unusedVariables false
set_option linter.unusedSimpArgs false
open Go.RowKit

set_option maxRecDepth 100000 in
set_option maxHeartbeats 4000000 in
theorem zero_zero (a : Option Addr) (c : Nat) (w : World) :
    Calls Try.prog 106 #[.agg #[.bool false, .int .i64 0, .int .i64 0, .slice a 0 c]] w fun e w' => e = .returned (.bool true) ∧ Below w.heap.size w w' := by
  have HB := Lib.hid (below_alloc w (.cells #[.bool false, .int .i64 0, .int .i64 0, .slice a 0 c] 28))
  go_enter Try.func106, Try.ntmps106
  go_wp2_with fail
  go_ret
  exact ⟨rfl, HB.out⟩

set_option maxRecDepth 100000 in
set_option maxHeartbeats 4000000 in
theorem value_some (k n : Int) (hk : k = 1 ∨ k = 2) (a : Option Addr) (m c : Nat) (w : World) :
    Calls Try.prog 107 #[.int .i64 k, .agg #[.bool false, .int .i64 k, .int .i64 n, .slice a m c]] w fun e w' => ∃ b, e = .returned (.bool b) ∧ Below w.heap.size w w' := by
  have HB := Lib.hid (below_alloc w (.cells #[.bool false, .int .i64 k, .int .i64 n, .slice a m c] 28))
  rcases hk with rfl | rfl
  · by_cases hm : m = 0
    · subst hm
      go_enter Try.func107, Try.ntmps107
      go_wp2_with fail
      go_ret
      exact ⟨true, rfl, HB.out⟩
    · have h1 : ((m : Int) == 0) = false := by rw [beq_eq_false_iff_ne]; omega
      have h2 : (m == 0) = false := by rw [beq_eq_false_iff_ne]; omega
      have h3 : ¬ ((m : Int) = 0) := by omega
      go_enter Try.func107, Try.ntmps107
      go_wp2_with fail
      go_ret
      exact ⟨false, rfl, HB.out⟩
  · by_cases hn : n = 0
    · subst hn
      by_cases hm : m ≤ 64
      · have h1 : decide ((m : Int) ≤ 64) = true := by rw [decide_eq_true_eq]; omega
        have h2 : decide (m ≤ 64) = true := by rw [decide_eq_true_eq]; omega
        go_enter Try.func107, Try.ntmps107
        go_wp2_with fail
        go_ret
        exact ⟨true, rfl, HB.out⟩
      · have h1 : decide ((m : Int) ≤ 64) = false := by rw [decide_eq_false_iff_not]; omega
        have h2 : decide (m ≤ 64) = false := by rw [decide_eq_false_iff_not]; omega
        go_enter Try.func107, Try.ntmps107
        go_wp2_with fail
        go_ret
        exact ⟨false, rfl, HB.out⟩
    · have h1 : (n == 0) = false := by rw [beq_eq_false_iff_ne]; omega
      go_enter Try.func107, Try.ntmps107
      go_wp2_with fail
      go_ret
      exact ⟨false, rfl, HB.out⟩

end Go.Proofs.Ytfmkalnnpddefaa
