/-
  Contracts: slices.Grow of nil, slices.Concat, at predicates; norm.otherOp.
-/
import Derived.Test.YtnfjdoeemnhkbaaFrAp
import Derived.Test.YtnfjdoeemnhkbaaNormm
import Derived.Lib.AppendZeros
namespace Go.Proofs.Ytnfjdoeemnhkbaa
set_option linter.unusedVariables false
set_option linter.unusedSimpArgs false
open Go.RowKit

theorem zeroCells_size (z : Array Value) (n : Nat) : (Builtin.zeroCells z n).size = n * z.size := by
  unfold Builtin.zeroCells
  simp

/-- The call hands back an empty row of its own. -/
def RetNone (B : Nat) (E : TypeId) (sz : Nat) (w : World) (e : Ending) (w' : World) : Prop :=
  ∃ ao cap, e = .returned (.slice ao 0 cap) ∧ w'.ownsRow B E sz (.slice ao 0 cap) 0 [] ∧ Below w.heap.size w w'

/-- The call hands back a row of its own that holds these things. -/
def RetOwnK (B : Nat) (E : TypeId) (sz : Nat) (ls : List (List Value)) (w : World) (e : Ending) (w' : World) : Prop :=
  ∃ ao cap, e = .returned (.slice ao ls.length cap) ∧ w'.ownsRow B E sz (.slice ao ls.length cap) ls.length ls.flatten ∧ Below w.heap.size w w'
theorem flat_take {α : Type} {cs : List (List α)} {k : Nat} {c : List α} (h : cs[k]? = some c) : (cs.take (k + 1)).flatten = (cs.take k).flatten ++ c := by
  rw [List.take_add_one, h, List.flatten_append]
  simp
theorem flat_take_le {α : Type} (cs : List (List α)) (k : Nat) : (cs.take k).flatten.length ≤ cs.flatten.length := by
  have h := congrArg List.length (congrArg List.flatten (List.take_append_drop k cs))
  rw [List.flatten_append, List.length_append] at h
  omega

end Go.Proofs.Ytnfjdoeemnhkbaa
