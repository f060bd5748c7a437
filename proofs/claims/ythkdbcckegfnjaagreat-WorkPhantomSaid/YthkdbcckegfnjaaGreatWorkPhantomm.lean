/-
  What WorkPhantom is run with.
-/
import Derived.Test.YthkdbcckegfnjaaGreatCanonY
namespace Go.Proofs.YthkdbcckegfnjaaGreat
open Canon

def mk_WorkPhantom (k : Nat) : List Value := fNat (k / 8 % 8) fun x0 => fNat (k / 2 % 4) fun x1 => fNat (k / 1 % 2) fun x2 => [.complex .f64 8 x0, .complex .f64 4 x1, .bool (Nat.beq x2 1)]

end Go.Proofs.YthkdbcckegfnjaaGreat
