/-
  Contracts of code.Zig and code.Zag.
-/
import Derived.Test.YteloepccjoikdaaRows
import Derived.Test.YteloepccjoikdaaPlmath
import Derived.Test.YteloepccjoikdaaLone
import Derived.WalkSpells
import Derived.WalkLawsBesides
import Derived.IntWalk
import Derived.Lib.Hide
namespace Go.Proofs.Yteloepccjoikdaa
set_option linter.unusedVariables false
open Go.RowKit

theorem ret_i {k : IntKind} {a b : Int} (h : a = b) : Ending.returned (.int k a) = Ending.returned (.int k b) := by rw [h]

theorem u64_of_wrap64 (m : Int) : IntKind.u64.wrap (wrap64 m) = m % 18446744073709551616 := by
  rw [IntKind.wrap_u64]; unfold wrap64; omega

theorem xor_ones (a : Nat) (ha : a < 18446744073709551616) : a ^^^ 18446744073709551615 = 18446744073709551615 - a := by
  apply Nat.eq_of_testBit_eq; intro i
  have h1 : (18446744073709551615 : Nat) = 2 ^ 64 - 1 := by decide +kernel
  have h2 : 18446744073709551615 - a = 2 ^ 64 - (a + 1) := by omega
  have h3 : a < 2 ^ 64 := by omega
  rw [h2, Nat.testBit_two_pow_sub_succ h3, Nat.testBit_xor, h1, Nat.testBit_two_pow_sub_one]
  by_cases hi : i < 64
  · simp [hi]
  · have : a.testBit i = false := Nat.testBit_lt_two_pow (Nat.lt_of_lt_of_le h3 (Nat.pow_le_pow_right (by decide) (by omega)))
    simp [hi, this]

theorem zig_pos_math (n : Nat) (h : n ≤ 9223372036854775807) : bits .xor .u64 (IntKind.u64.wrap (wrap64 ((n : Int) * 2))) ((n : Int) / 9223372036854775808) = ((2 * n : Nat) : Int) := by
  have e1 : (n : Int) / 9223372036854775808 = ((0 : Nat) : Int) := by omega
  have e2 : (n : Int) * 2 % 18446744073709551616 = ((2 * n : Nat) : Int) := by omega
  rw [u64_of_wrap64, e1, e2, bits_xor_u64_nat _ _ (by omega) (by omega), Nat.xor_zero]

theorem zig_neg_math (n : Int) (h : n < 0) (h2 : -9223372036854775808 ≤ n) : bits .xor .u64 (IntKind.u64.wrap (wrap64 (n * 2))) (IntKind.u64.wrap (n / 9223372036854775808)) = -2 * n - 1 := by
  obtain ⟨a, ha⟩ : ∃ a : Nat, (a : Int) = n * 2 + 18446744073709551616 := ⟨(n * 2 + 18446744073709551616).toNat, by omega⟩
  have e1 : IntKind.u64.wrap (n / 9223372036854775808) = ((18446744073709551615 : Nat) : Int) := by rw [IntKind.wrap_u64]; omega
  have e2 : n * 2 % 18446744073709551616 = (a : Int) := by omega
  rw [u64_of_wrap64, e1, e2, bits_xor_u64_nat _ _ (by omega) (by omega), xor_ones _ (by omega)]
  omega

theorem i64_xor_zero (x : Nat) (h : x < 9223372036854775808) : bits .xor .i64 (x : Int) 0 = (x : Int) := by
  show IntKind.i64.wrap ((BitVec.ofInt 64 (x : Int) ^^^ BitVec.ofInt 64 0).toNat : Int) = _
  have e : BitVec.ofInt 64 0 = 0#64 := by decide
  rw [e, BitVec.xor_zero, BitVec.ofInt_natCast, BitVec.toNat_ofNat, Nat.mod_eq_of_lt (by omega)]
  exact IntWalk.i64_in _ (by omega)

theorem i64_xor_ones (x : Nat) (h : x < 9223372036854775808) : bits .xor .i64 (x : Int) (-1) = -(x : Int) - 1 := by
  show IntKind.i64.wrap ((BitVec.ofInt 64 (x : Int) ^^^ BitVec.ofInt 64 (-1)).toNat : Int) = _
  have e : (BitVec.ofInt 64 (-1)).toNat = 18446744073709551615 := by decide +kernel
  rw [BitVec.toNat_xor, e, BitVec.ofInt_natCast, BitVec.toNat_ofNat, Nat.mod_eq_of_lt (by omega), xor_ones _ (by omega), IntKind.wrap_i64]
  omega

theorem u64_and_one (u : Nat) (h : u < 18446744073709551616) : bits .and .u64 (u : Int) 1 = ((u % 2 : Nat) : Int) := by
  have e : (1 : Int) = ((1 : Nat) : Int) := rfl
  rw [e, u64_and_nat _ _ h (by decide), nat_mask1]

theorem zag_math (u : Nat) (h : u < 18446744073709551616) : bits .xor .i64 ((u : Int) / 2) (wrap64 (-wrap64 (bits .and .u64 (u : Int) 1))) =
    if u % 2 = 1 then -((u / 2 : Nat) : Int) - 1 else ((u / 2 : Nat) : Int) := by
  have e0 : (u : Int) / 2 = ((u / 2 : Nat) : Int) := by simp
  rw [u64_and_one u h, e0]
  by_cases h1 : u % 2 = 1
  · have e : wrap64 (-wrap64 ((u % 2 : Nat) : Int)) = -1 := by rw [h1]; unfold wrap64; omega
    rw [e, if_pos h1, i64_xor_ones _ (by omega)]
  · have h0 : u % 2 = 0 := by omega
    have e : wrap64 (-wrap64 ((u % 2 : Nat) : Int)) = 0 := by rw [h0]; unfold wrap64; omega
    rw [e, if_neg h1, i64_xor_zero _ (by omega)]

set_option maxHeartbeats 400000 in
theorem zig_pos (n : Nat) (w : World) (h : n ≤ 9223372036854775807) :
    Calls Try.prog 161 #[.int .i64 (n : Int)] w fun e w' => e = .returned (.int .u64 (2 * n : Nat)) ∧ w = w' := by
  have h1 : (0 : Int) ≤ (n : Int) := by omega
  have h2 : (n : Int) ≤ 9223372036854775807 := by omega
  go_enter Try.func161, Try.ntmps161
  go_wp2
  go_ret
  exact ⟨ret_i (zig_pos_math n h), rfl⟩

set_option maxHeartbeats 400000 in
theorem zig_neg (n : Int) (w : World) (h : n < 0) (h2 : -9223372036854775808 ≤ n) :
    Calls Try.prog 161 #[.int .i64 n] w fun e w' => e = .returned (.int .u64 (-2 * n - 1)) ∧ w = w' := by
  go_enter Try.func161, Try.ntmps161
  go_wp2
  go_ret
  exact ⟨ret_i (zig_neg_math n h h2), rfl⟩

def zagN (u : Nat) : Int := if u % 2 = 1 then -((u / 2 : Nat) : Int) - 1 else ((u / 2 : Nat) : Int)

set_option maxHeartbeats 400000 in
theorem zag_any (u : Nat) (w : World) (h : u < 18446744073709551616) :
    Calls Try.prog 162 #[.int .u64 (u : Int)] w fun e w' => e = .returned (.int .i64 (zagN u)) ∧ w = w' := by
  have h1 : (0 : Int) ≤ (u : Int) := by omega
  have h2 : (u : Int) ≤ 18446744073709551615 := by omega
  have HU := Lib.hid h
  clear h
  go_enter Try.func162, Try.ntmps162
  go_wp2
  go_ret
  exact ⟨ret_i (zag_math u HU.out), rfl⟩

end Go.Proofs.Yteloepccjoikdaa
