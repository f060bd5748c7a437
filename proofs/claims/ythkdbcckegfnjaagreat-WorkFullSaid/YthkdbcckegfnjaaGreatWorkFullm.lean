/-
  What WorkFull is run with.
-/
import Derived.Test.YthkdbcckegfnjaaGreatCanonY
namespace Go.Proofs.YthkdbcckegfnjaaGreat
open Canon

def mk_WorkFull (k : Nat) : List Value := fNat (k / 8 % 8) fun x0 => fNat (k / 1 % 8) fun x1 => [.complex .f64 8 x0, .complex .f64 8 x1]

end Go.Proofs.YthkdbcckegfnjaaGreat
