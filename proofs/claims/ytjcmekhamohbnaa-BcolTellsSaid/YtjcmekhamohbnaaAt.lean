/-
  Contracts of bitp.At and of the reference's SameWords.
-/
import Derived.Test.YtjcmekhamohbnaaSpare
namespace Go.Proofs.Ytjcmekhamohbnaa
set_option linter.unusedVariables false
open Go.RowKit

theorem ret_pair {a b c d : Value} (h1 : a = b) (h2 : c = d) : Ending.returned (.tuple #[a, c]) = Ending.returned (.tuple #[b, d]) := by rw [h1, h2]

end Go.Proofs.Ytjcmekhamohbnaa
