/-
  Contracts of code.Zig and code.Zag.
-/
import Derived.Test.YtjcmekhamohbnaaRows
import Derived.Test.YtjcmekhamohbnaaPlmath
import Derived.Test.YtjcmekhamohbnaaLone
import Derived.WalkSpells
import Derived.WalkLawsBesides
import Derived.IntWalk
import Derived.Lib.Hide
namespace Go.Proofs.Ytjcmekhamohbnaa
set_option linter.unusedVariables false
open Go.RowKit

theorem u64_and_one (u : Nat) (h : u < 18446744073709551616) : bits .and .u64 (u : Int) 1 = ((u % 2 : Nat) : Int) := by
  have e : (1 : Int) = ((1 : Nat) : Int) := rfl
  rw [e, u64_and_nat _ _ h (by decide), nat_mask1]

def zagN (u : Nat) : Int := if u % 2 = 1 then -((u / 2 : Nat) : Int) - 1 else ((u / 2 : Nat) : Int)

end Go.Proofs.Ytjcmekhamohbnaa
