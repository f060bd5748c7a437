/-
  The law's predicates: columns, kinds of their values (plain).
-/
import Derived.Test.YtnfjdoeemnhkbaaColn
import Derived.Test.YtnfjdoeemnhkbaaNkeym
import Derived.Test.YtnfjdoeemnhkbaaLpred
namespace Go.Proofs.Ytnfjdoeemnhkbaa
set_option linter.unusedVariables false
set_option linter.unusedSimpArgs false
open Go.RowKit

theorem opN_range (o : Int) (h1 : 1 ≤ o) (h2 : o ≤ 6) : 1 ≤ opN o ∧ opN o ≤ 6 := by
  rcases (by omega : o = 1 ∨ o = 2 ∨ o = 3 ∨ o = 4 ∨ o = 5 ∨ o = 6) with rfl | rfl | rfl | rfl | rfl | rfl <;> simp [opN]
theorem colOf_lt (cols : List Co) (h : 0 < cols.length) (n : Int) : colOf cols n < cols.length := Nat.mod_lt _ h
theorem valOf_k (c : Co) (n : Int) : (valOf c n).k = c.k := by
  unfold valOf
  split
  · rfl
  · split
    · rename_i h; exact h.symm
    · rfl
theorem cmpV_k {cols : List Co} (h : ColsOk cols) (n : Int) {c : Co} (hc : cols[colOf cols n]? = some c) : (cmpV cols n).k = c.k := by
  unfold cmpV
  rw [hc]
  simp only
  split
  · rename_i h0
    rw [h0] at hc
    exact (h.hd c hc).1.symm
  · exact valOf_k _ _

end Go.Proofs.Ytnfjdoeemnhkbaa
