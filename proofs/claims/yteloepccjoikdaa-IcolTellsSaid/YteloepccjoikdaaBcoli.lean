/-
  Contracts of layer 5: slices.Clone, CompactFunc of rows of bytes.
  Contracts of layer 5: slices.BinarySearchFunc of bytes, by bytes.Compare.
  Contracts of layer 5: slices.SortFunc of rows of bytes, by bytes.Compare.
  Contracts of layer 5: what the coder of bytes tells by a dictionary.
-/
import Derived.Test.YteloepccjoikdaaBcole
import Derived.Test.YteloepccjoikdaaIcoli
import Derived.Test.YteloepccjoikdaaIcolp
namespace Go.Proofs.Yteloepccjoikdaa.Bc
set_option linter.unusedVariables false
set_option linter.unusedSimpArgs false
open Go.RowKit

theorem vs_take (ps : Row) (k : Nat) : vs (ps.take k) = (vs ps).take k := by unfold vs; rw [List.map_take]

end Go.Proofs.Yteloepccjoikdaa.Bc

namespace Go.Proofs.Yteloepccjoikdaa.Bc
set_option linter.unusedVariables false
set_option linter.unusedSimpArgs false
open Go.RowKit

end Go.Proofs.Yteloepccjoikdaa.Bc

namespace Go.Proofs.Yteloepccjoikdaa.Bc
set_option linter.unusedVariables false
set_option linter.unusedSimpArgs false
open Go.RowKit

end Go.Proofs.Yteloepccjoikdaa.Bc

namespace Go.Proofs.Yteloepccjoikdaa.Bc
set_option linter.unusedVariables false
set_option linter.unusedSimpArgs false
open Go.RowKit

end Go.Proofs.Yteloepccjoikdaa.Bc
