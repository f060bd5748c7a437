/-
  Contract of the reference's SameWords.
-/
import Derived.Test.YteloepccjoikdaaSpare
namespace Go.Proofs.Yteloepccjoikdaa
set_option linter.unusedVariables false
open Go.RowKit

end Go.Proofs.Yteloepccjoikdaa
