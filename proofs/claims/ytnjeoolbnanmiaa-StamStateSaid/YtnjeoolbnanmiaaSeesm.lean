/-
  What stam's Sees and Base are run with: numbers and a slice that bear names; what is known of said, saidOfEnd and isOf.
-/
import Derived.Test.YtnjeoolbnanmiaaCanonA
import Derived.Test.YtnjeoolbnanmiaaProg
import Derived.KernelRfl
namespace Go.Proofs.Ytnjeoolbnanmiaa
open Canon

/-- Whom that hangs on, rising. -/
def hangL (a b : Int) : List Int := if a = 0 then (if b = 0 then [] else [b]) else if b = 0 then [a] else if a = b then [a] else if a < b then [a, b] else [b, a]

def N0 : Value := .chan (some 273406340597876490546563004546126962302340365524292869130021803851692901916738755453157094260211712)
theorem N0_eq : N0 = .chan (some (symI 0)) := by
  unfold N0
  rw [show (273406340597876490546563004546126962302340365524292869130021803851692901916738755453157094260211712 : Nat) = symI 0 from by decide +kernel]
def N1 : Value := .chan (some 273406340597876490546563004546126962302340365524292869130021803851692901916738755453157094260211713)
theorem N1_eq : N1 = .chan (some (symI 1)) := by
  unfold N1
  rw [show (273406340597876490546563004546126962302340365524292869130021803851692901916738755453157094260211713 : Nat) = symI 1 from by decide +kernel]
def N2 : Value := .chan (some 273406340597876490546563004546126962302340365524292869130021803851692901916738755453157094260211714)
theorem N2_eq : N2 = .chan (some (symI 2)) := by
  unfold N2
  rw [show (273406340597876490546563004546126962302340365524292869130021803851692901916738755453157094260211714 : Nat) = symI 2 from by decide +kernel]
def N3 : Value := .chan (some 273406340597876490546563004546126962302340365524292869130021803851692901916738755453157094260211715)
theorem N3_eq : N3 = .chan (some (symI 3)) := by
  unfold N3
  rw [show (273406340597876490546563004546126962302340365524292869130021803851692901916738755453157094260211715 : Nat) = symI 3 from by decide +kernel]
def N4 : Value := .chan (some 273406340597876490546563004546126962302340365524292869130021803851692901916738755453157094260211716)
theorem N4_eq : N4 = .chan (some (symI 4)) := by
  unfold N4
  rw [show (273406340597876490546563004546126962302340365524292869130021803851692901916738755453157094260211716 : Nat) = symI 4 from by decide +kernel]
def N5 : Value := .chan (some 273406340597876490546563004546126962302340365524292869130021803851692901916738755453157094260211717)
theorem N5_eq : N5 = .chan (some (symI 5)) := by
  unfold N5
  rw [show (273406340597876490546563004546126962302340365524292869130021803851692901916738755453157094260211717 : Nat) = symI 5 from by decide +kernel]
def SL : Value := .iface 0 (.map none)

noncomputable def word (a g : Nat) : Value := fNat g fun g => Bool.rec (motive := fun _ => Value) (.agg #[.bool false, .int .i64 (.ofNat g)]) (.agg #[.bool true, .int .i64 (.ofNat g)]) (Nat.beq a 1)
noncomputable def boolK (a : Nat) : Value := Bool.rec (motive := fun _ => Value) (.bool false) (.bool true) (Nat.beq a 1)
noncomputable def orc_sees (k : Nat) : FuncId → List Value → Option Value :=
  orcC 52 [.agg #[N0, N1], N5, SL] (word (k / 98 % 2) (k / 14 % 7))
    (orcC 53 [.agg #[N2, N3], N5, SL] (word (k / 7 % 2) (k % 7))
      (orcC 54 [.agg #[N0, N1], N4] (boolK (k / 392 % 2))
        (orcC 54 [.agg #[N2, N3], N4] (boolK (k / 196 % 2)) orcN)))
/-- What is seen: f: what one's own says. -/
def wb_see (f : Bool) (p q a c : Bool) : Bool := bif (bif p then f else a) then !(bif q then f else c) else false
def wl_see (f : Bool) (p q a : Bool) (g h : Nat) : List Int := bif (bif p then f else a) then hangL (bif p then 0 else .ofNat g) (bif q then 0 else .ofNat h) else []
def wb_sees (f : Bool) (k : Nat) : Bool := wb_see f (Nat.beq (k / 392 % 2) 1) (Nat.beq (k / 196 % 2) 1) (Nat.beq (k / 98 % 2) 1) (Nat.beq (k / 7 % 2) 1)
def wl_sees (f : Bool) (k : Nat) : List Int := wl_see f (Nat.beq (k / 392 % 2) 1) (Nat.beq (k / 196 % 2) 1) (Nat.beq (k / 98 % 2) 1) (k / 14 % 7) (k % 7)
def args_sees : List Value := [.agg #[N0, N1, N2, N3], N4, N5, SL]

end Go.Proofs.Ytnjeoolbnanmiaa
