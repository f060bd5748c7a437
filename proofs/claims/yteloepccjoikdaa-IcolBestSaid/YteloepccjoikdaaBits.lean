/-
  Plain facts on bits: how the walks spell the shifts and the bit operations, as numbers.
-/
import Derived.Test.YteloepccjoikdaaMath
import Derived.Laws.ShiftsVarLaws
import Derived.Laws.Bits64
namespace Go.Proofs.Yteloepccjoikdaa
set_option linter.unusedVariables false

theorem pow_cast (n : Nat) : (2 : Int) ^ n = ((2 ^ n : Nat) : Int) := by simp

theorem div_cast (x n : Nat) : (x : Int) / 2 ^ n = ((x / 2 ^ n : Nat) : Int) := by simp

theorem and_lowB (x t : Nat) (ht : t ≤ 8) : x &&& (255 / 2 ^ (8 - t)) = x % 2 ^ t := by
  have : 255 / 2 ^ (8 - t) = 2 ^ t - 1 := by
    have h : t = 0 ∨ t = 1 ∨ t = 2 ∨ t = 3 ∨ t = 4 ∨ t = 5 ∨ t = 6 ∨ t = 7 ∨ t = 8 := by omega
    rcases h with rfl | rfl | rfl | rfl | rfl | rfl | rfl | rfl | rfl <;> decide
  rw [this, Nat.and_two_pow_sub_one_eq_mod]

theorem u8_low (x t : Nat) (ht : t ≤ 8) (hx : x < 256) : bits .and .u8 (x : Int) (255 / 2 ^ (8 - t)) = ((x % 2 ^ t : Nat) : Int) := by
  have e : (255 : Int) / 2 ^ (8 - t) = ((255 / 2 ^ (8 - t) : Nat) : Int) := by simp
  have hb : 255 / 2 ^ (8 - t) < 256 := Nat.lt_of_le_of_lt (Nat.div_le_self _ _) (by decide)
  rw [e, u8_and_nat _ _ hx hb, and_lowB x t ht]

theorem u64_or_join (a b t : Nat) (hb : b < 2 ^ t) (ha : a * 2 ^ t < 18446744073709551616) (h64 : b < 18446744073709551616) :
    bits .or .u64 ((a : Int) * 2 ^ t) (b : Int) = ((a * 2 ^ t + b : Nat) : Int) := by
  have e : (a : Int) * 2 ^ t = ((a * 2 ^ t : Nat) : Int) := by simp
  rw [e, u64_or_nat _ _ ha h64]
  rw [nat_join t (a * 2 ^ t) b (Nat.mul_mod_left a (2 ^ t)) hb]

theorem wrap_small (n : Nat) (h : n < 18446744073709551616) : IntKind.u64.wrap (n : Int) = (n : Int) := by
  rw [IntKind.wrap_u64]; omega

theorem get_step (U x s t m : Nat) (hU : U < 2 ^ m) (hmt : m + t ≤ 64) (ht : t ≤ 8) (hx : x < 256) :
    bits .or .u64 (IntKind.u64.wrap ((U : Int) * 2 ^ t)) (IntKind.u64.wrap (bits .and .u8 ((x : Int) / 2 ^ s) (255 / 2 ^ (8 - t)))) = ((U * 2 ^ t + x / 2 ^ s % 2 ^ t : Nat) : Int) := by
  have h1 : U * 2 ^ t < 2 ^ (m + t) := by rw [Nat.pow_add]; exact Nat.mul_lt_mul_of_pos_right hU (Nat.two_pow_pos t)
  have h2 : (2 : Nat) ^ (m + t) ≤ 2 ^ 64 := Nat.pow_le_pow_right (by decide) hmt
  have h3 : (2 : Nat) ^ 64 = 18446744073709551616 := by decide
  have h4 : U * 2 ^ t < 18446744073709551616 := by omega
  have h5 : x / 2 ^ s % 2 ^ t < 2 ^ t := Nat.mod_lt _ (Nat.two_pow_pos t)
  have h6 : (2 : Nat) ^ t ≤ 2 ^ 8 := Nat.pow_le_pow_right (by decide) ht
  have h8 : (2 : Nat) ^ 8 = 256 := by decide
  have h7 : x / 2 ^ s < 256 := Nat.lt_of_le_of_lt (Nat.div_le_self _ _) hx
  have e1 : (U : Int) * 2 ^ t = ((U * 2 ^ t : Nat) : Int) := by simp
  rw [div_cast, u8_low _ t ht h7, wrap_small _ (by omega), e1, wrap_small _ h4, ← e1]
  exact u64_or_join _ _ _ h5 h4 (by omega)

theorem numB_step (bs : List Nat) (p m t : Nat) (h : (p + m) % 8 + t ≤ 8) :
    numB bs p (m + t) = numB bs p m * 2 ^ t + bs.getD ((p + m) / 8) 0 / 2 ^ (8 - (p + m) % 8 - t) % 2 ^ t := by
  rw [numB_add, numB_part bs (p + m) t h]

end Go.Proofs.Yteloepccjoikdaa
