import Derived.Test.YtmpgnjhgegbdkaaGreatRows
import Derived.Test.YtmpgnjhgegbdkaaGreatPlmath
import Derived.Test.YtmpgnjhgegbdkaaGreatLone
import Derived.WalkSpells
import Derived.WalkLawsBesides
import Derived.IntWalk
import Derived.Lib.Hide
set_option linter.unusedVariables false
set_option maxHeartbeats 400000
open Go.Lib (hid)
namespace Go.Proofs.YtmpgnjhgegbdkaaGreat
open Go.RowKit
open _root_.Nat renaming mod_eq_of_lt -> Qa
theorem zIm {k : IntKind} {a b : Int} (h : a = b) : Ending.returned (.int k a) = Ending.returned (.int k b) := by rw [h]
theorem zGq (m : Int) : IntKind.u64.wrap (wrap64 m) = m % 18446744073709551616 := by
 rw [IntKind.wrap_u64]; unfold wrap64; omega
theorem zKq (a : Nat) (ha : a < 18446744073709551616) : a ^^^ 18446744073709551615 = 18446744073709551615 - a := by
 apply Nat.eq_of_testBit_eq; intro i
 have h1 : (18446744073709551615 : Nat) = 2 ^ 64 - 1 := by decide +kernel
 have h2 : 18446744073709551615 - a = 2 ^ 64 - (a + 1) := by omega
 have h3 : a < 2 ^ 64 := by omega
 rw [h2, Nat.testBit_two_pow_sub_succ h3, Nat.testBit_xor, h1, Nat.testBit_two_pow_sub_one]
 by_cases hi : i < 64
 ·simp [hi]
 ·have : a.testBit i = false := Nat.testBit_lt_two_pow (Nat.lt_of_lt_of_le h3 (Nat.pow_le_pow_right (by decide) (by omega)))
  simp [hi, this]
theorem zKr (n : Nat) (h : n <= 9223372036854775807) : bits .xor .u64 (IntKind.u64.wrap (wrap64 ((n : Int) * 2))) ((n : Int) / 9223372036854775808) = ((2 * n : Nat) : Int) := by
 have e1 : (n : Int) / 9223372036854775808 = ((0 : Nat) : Int) := by omega
 have e2 : (n : Int) * 2 % 18446744073709551616 = ((2 * n : Nat) : Int) := by omega
 rw [zGq, e1, e2, bits_xor_u64_nat _ _ (by omega) (by omega), Nat.xor_zero]
theorem zKs (n : Int) (h : n < 0) (h2 : -9223372036854775808 <= n) : bits .xor .u64 (IntKind.u64.wrap (wrap64 (n * 2))) (IntKind.u64.wrap (n / 9223372036854775808)) = -2 * n - 1 := by
 obtain ⟨a, ha⟩ : ∃ a : Nat, (a : Int) = n * 2 + 18446744073709551616 := ⟨(n * 2 + 18446744073709551616).toNat, by omega⟩
 have e1 : IntKind.u64.wrap (n / 9223372036854775808) = ((18446744073709551615 : Nat) : Int) := by rw [IntKind.wrap_u64]; omega
 have e2 : n * 2 % 18446744073709551616 = (a : Int) := by omega
 rw [zGq, e1, e2, bits_xor_u64_nat _ _ (by omega) (by omega), zKq _ (by omega)]
 omega
theorem zKt (x : Nat) (h : x < 9223372036854775808) : bits .xor .i64 (x : Int) 0 = (x : Int) := by
 show IntKind.i64.wrap ((BitVec.ofInt 64 (x : Int) ^^^ BitVec.ofInt 64 0).toNat : Int) = _
 have e : BitVec.ofInt 64 0 = 0#64 := by decide
 rw [e, BitVec.xor_zero, BitVec.ofInt_natCast, BitVec.toNat_ofNat, Qa (by omega)]
 exact IntWalk.i64_in _ (by omega)
theorem zKu (x : Nat) (h : x < 9223372036854775808) : bits .xor .i64 (x : Int) (-1) = -(x : Int) - 1 := by
 show IntKind.i64.wrap ((BitVec.ofInt 64 (x : Int) ^^^ BitVec.ofInt 64 (-1)).toNat : Int) = _
 have e : (BitVec.ofInt 64 (-1)).toNat = 18446744073709551615 := by decide +kernel
 rw [BitVec.toNat_xor, e, BitVec.ofInt_natCast, BitVec.toNat_ofNat, Qa (by omega), zKq _ (by omega), IntKind.wrap_i64]
 omega
theorem zMd (u : Nat) (h : u < 18446744073709551616) : bits .and .u64 (u : Int) 1 = ((u % 2 : Nat) : Int) := by
 have e : (1 : Int) = ((1 : Nat) : Int) := rfl
 rw [e, u64_and_nat _ _ h (by decide), nat_mask1]
theorem zQm (u : Nat) (h : u < 18446744073709551616) : bits .xor .i64 ((u : Int) / 2) (wrap64 (-wrap64 (bits .and .u64 (u : Int) 1))) =
  if u % 2 = 1 then -((u / 2 : Nat) : Int) - 1 else ((u / 2 : Nat) : Int) := by
 have e0 : (u : Int) / 2 = ((u / 2 : Nat) : Int) := by simp
 rw [zMd u h, e0]
 by_cases h1 : u % 2 = 1
 ·have e : wrap64 (-wrap64 ((u % 2 : Nat) : Int)) = -1 := by rw [h1]; unfold wrap64; omega
  rw [e, if_pos h1, zKu _ (by omega)]
 ·have h0 : u % 2 = 0 := by omega
  have e : wrap64 (-wrap64 ((u % 2 : Nat) : Int)) = 0 := by rw [h0]; unfold wrap64; omega
  rw [e, if_neg h1, zKt _ (by omega)]
theorem zRz (n : Nat) (w : World) (h : n <= 9223372036854775807) :
  Calls Tryz.prog 190 #[.int .i64 (n : Int)] w fun e w' => e = .returned (.int .u64 (2 * n : Nat)) ∧ w = w' := by
 have h1 : (0 : Int) <= (n : Int) := by omega
 have h2 : (n : Int) <= 9223372036854775807 := by omega
 go_enter Tryz.func190, Tryz.ntmps190
 go_wp2
 go_ret
 exact ⟨zIm (zKr n h), rfl⟩
theorem zR0 (n : Int) (w : World) (h : n < 0) (h2 : -9223372036854775808 <= n) :
  Calls Tryz.prog 190 #[.int .i64 n] w fun e w' => e = .returned (.int .u64 (-2 * n - 1)) ∧ w = w' := by
 go_enter Tryz.func190, Tryz.ntmps190
 go_wp2
 go_ret
 exact ⟨zIm (zKs n h h2), rfl⟩
def zagN (u : Nat) : Int := if u % 2 = 1 then -((u / 2 : Nat) : Int) - 1 else ((u / 2 : Nat) : Int)
theorem zM0 (u : Nat) (w : World) (h : u < 18446744073709551616) :
  Calls Tryz.prog 191 #[.int .u64 (u : Int)] w fun e w' => e = .returned (.int .i64 (zagN u)) ∧ w = w' := by
 have h1 : (0 : Int) <= (u : Int) := by omega
 have h2 : (u : Int) <= 18446744073709551615 := by omega
 have HU := hid h
 clear h
 go_enter Tryz.func191, Tryz.ntmps191
 go_wp2
 go_ret
 exact ⟨zIm (zQm u HU.out), rfl⟩
end Go.Proofs.YtmpgnjhgegbdkaaGreat
