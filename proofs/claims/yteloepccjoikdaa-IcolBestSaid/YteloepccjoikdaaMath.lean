/-
  Plain facts on numbers and bits, without the program: the bits of a row of bytes, the most significant first.
-/
import Derived.Laws.ShiftsVarLaws
import Derived.Below
namespace Go.Proofs.Yteloepccjoikdaa
set_option linter.unusedVariables false

/-- Bit p of a row of bytes, as 0 or 1; the first bit is the highest one of the first byte. -/
def bitN (bs : List Nat) (p : Nat) : Nat := bs.getD (p / 8) 0 / 2 ^ (7 - p % 8) % 2

/-- The number of n bits that stands at bit p. -/
def numB (bs : List Nat) (p : Nat) : Nat → Nat
  | 0 => 0
  | n + 1 => 2 * numB bs p n + bitN bs (p + n)

theorem bitN_lt (bs : List Nat) (p : Nat) : bitN bs p < 2 := Nat.mod_lt _ (by decide)

theorem numB_lt (bs : List Nat) (p n : Nat) : numB bs p n < 2 ^ n := by
  induction n with
  | zero => simp [numB]
  | succ n ih => have := bitN_lt bs (p + n); rw [numB, Nat.pow_succ]; omega

/-- The part of one byte: bits q .. q+t-1 of a byte x, where q + t ≤ 8. -/
theorem numB_part (bs : List Nat) (p t : Nat) (h : p % 8 + t ≤ 8) : numB bs p t = bs.getD (p / 8) 0 / 2 ^ (8 - p % 8 - t) % 2 ^ t := by
  induction t with
  | zero => simp [numB, Nat.mod_one]
  | succ t ih =>
    rw [numB, ih (by omega), bitN]
    have e1 : (p + t) / 8 = p / 8 := by omega
    have e2 : 7 - (p + t) % 8 = 8 - p % 8 - (t + 1) := by omega
    rw [e1, e2]
    have e3 : 8 - p % 8 - t = (8 - p % 8 - (t + 1)) + 1 := by omega
    rw [e3]
    generalize bs.getD (p / 8) 0 = x
    generalize 8 - p % 8 - (t + 1) = s
    have e4 : x / 2 ^ (s + 1) = x / 2 ^ s / 2 := by rw [Nat.pow_succ, Nat.div_div_eq_div_mul]
    rw [e4]
    generalize x / 2 ^ s = y
    rw [Nat.pow_succ, Nat.mul_comm (2 ^ t) 2, Nat.mod_mul]
    omega

theorem numB_add (bs : List Nat) (p m t : Nat) : numB bs p (m + t) = numB bs p m * 2 ^ t + numB bs (p + m) t := by
  induction t with
  | zero => simp [numB]
  | succ t ih =>
    rw [← Nat.add_assoc, numB, ih, numB, Nat.pow_succ, Nat.add_assoc]
    rw [Nat.mul_add, ← Nat.mul_assoc]
    have : 2 * numB bs p m * 2 ^ t = numB bs p m * (2 ^ t * 2) := by rw [Nat.mul_comm 2, Nat.mul_assoc, Nat.mul_comm 2]
    omega

end Go.Proofs.Yteloepccjoikdaa
