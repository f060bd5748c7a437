/-
  What WorkHangs is run with.
-/
import Derived.Test.YthlfcjpjhajaaaaGreatCanonY
namespace Go.Proofs.YthlfcjpjhajaaaaGreat
open Canon

def mk_WorkHangs (k : Nat) : List Value := fNat (k / 8 % 2) fun x0 => fNat (k / 1 % 8) fun x1 => [.bool (Nat.beq x0 1), .complex .f64 8 x1]

end Go.Proofs.YthlfcjpjhajaaaaGreat
