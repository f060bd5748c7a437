/-
  The walk of CodeZigs.
-/
import Derived.Test.YtdelcaijehcaeaaAwakb
namespace Go.Proofs.Ytdelcaijehcaeaa
set_option linter.unusedVariables false
open Go.RowKit

theorem zag_zig_pos (n : Nat) : zagN (2 * n) = n := by unfold zagN; rw [if_neg (by omega)]; omega

theorem zag_lit {u : Int} {U : Nat} {w : World} {z : Int} (hu : u = (U : Int)) (h : U < 18446744073709551616) (hz : zagN U = z) :
    Calls Try.prog 22 #[.int .u64 u] w fun e w' => e = .returned (.int .i64 z) ∧ w = w' := by
  rw [hu, ← hz]; exact zag_any U w h

theorem zig_lit {m z : Int} {n : Nat} {w : World} (hm : m = (n : Int)) (h : n ≤ 9223372036854775807) (hz : z = ((2 * n : Nat) : Int)) :
    Calls Try.prog 21 #[.int .i64 m] w fun e w' => e = .returned (.int .u64 z) ∧ w = w' := by
  rw [hm, hz]; exact zig_pos n w h

set_option maxRecDepth 100000 in
set_option maxHeartbeats 1000000 in
theorem walk_CodeZigs (a0 : Int) (w0 : (Lit.int .i64 a0).wf = true) (w : World) :
    Calls Try.prog 6 #[.int .i64 a0] w fun e w' => e = .returned (.bool true) ∧ Below w.heap.size w w' := by
  obtain ⟨h0, h1⟩ := wf_i64 w0
  clear w0
  by_cases hneg : a0 < 0
  · obtain ⟨U, hU⟩ : ∃ U : Nat, (U : Int) = -2 * a0 - 1 := ⟨(-2 * a0 - 1).toNat, by omega⟩
    have hU2 : U % 2 = 1 := by omega
    have HZ := Lib.hid (show zagN U = a0 by unfold zagN; rw [if_pos hU2]; omega)
    have HU := Lib.hid hU
    have HU64 := Lib.hid (show U < 18446744073709551616 by omega)
    have hand : bits .and .u64 (U : Int) 1 = 1 := by rw [u64_and_one U HU64.out, hU2]; rfl
    have hb1 : (0 : Int) ≤ (U : Int) := by omega
    have hb2 : (U : Int) ≤ 18446744073709551615 := by omega
    clear hU hU2
    by_cases hmin : -9223372036854775808 < a0
    · have hb3 : (U : Int) ≤ 18446744073709551614 := by have := HU.out; omega
      go_enter Try.func6, Try.ntmps6
      go_wp2_with fail
      refine (zig_neg a0 _ hneg h0).mono ?_
      rw [← HU.out]
      rintro e w8 ⟨rfl, rfl⟩
      go_wp2_with fail
      refine (zag_lit rfl HU64.out HZ.out).mono ?_
      rintro e w8 ⟨rfl, rfl⟩
      go_wp2_with fail
      refine (zig_lit (n := (-a0).toNat) (z := (U : Int) + 1) (by omega) (by omega) (by have := HU.out; omega)).mono ?_
      rintro e w8 ⟨rfl, rfl⟩
      go_wp2_with fail
      refine (awake2_any _).mono ?_
      rintro e w9 ⟨rfl, hb⟩
      have HB := Lib.hid hb
      clear hb
      go_wp2_with fail
      go_ret
      exact ⟨rfl, HB.out⟩
    · go_enter Try.func6, Try.ntmps6
      go_wp2_with fail
      refine (zig_neg a0 _ hneg h0).mono ?_
      rw [← HU.out]
      rintro e w8 ⟨rfl, rfl⟩
      go_wp2_with fail
      refine (zag_lit rfl HU64.out HZ.out).mono ?_
      rintro e w8 ⟨rfl, rfl⟩
      go_wp2_with fail
      refine (awake2_any _).mono ?_
      rintro e w9 ⟨rfl, hb⟩
      have HB := Lib.hid hb
      clear hb
      go_wp2_with fail
      go_ret
      exact ⟨rfl, HB.out⟩
  · obtain ⟨N, rfl⟩ := Int.eq_ofNat_of_zero_le (show 0 ≤ a0 by omega)
    obtain ⟨U, hU⟩ : ∃ U : Nat, U = 2 * N := ⟨_, rfl⟩
    have HZ := Lib.hid (show zagN U = (N : Int) by rw [hU]; exact zag_zig_pos N)
    have HU := Lib.hid hU
    have HU64 := Lib.hid (show U < 18446744073709551616 by omega)
    have hand : bits .and .u64 (U : Int) 1 = 0 := by rw [u64_and_one U HU64.out, hU, show 2 * N % 2 = 0 from by omega]; rfl
    have hq : ((U : Int) == 2 * (N : Int)) = true := by rw [beq_iff_eq]; omega
    have HNB := Lib.hid (show N ≤ 9223372036854775807 by omega)
    clear hU
    go_enter Try.func6, Try.ntmps6
    go_wp2_with fail
    refine (zig_lit (n := N) (z := (U : Int)) rfl HNB.out (by rw [HU.out])).mono ?_
    rintro e w8 ⟨rfl, rfl⟩
    go_wp2_with fail
    refine (zag_lit rfl HU64.out HZ.out).mono ?_
    rintro e w8 ⟨rfl, rfl⟩
    go_wp2_with fail
    refine (awake2_any _).mono ?_
    rintro e w9 ⟨rfl, hb⟩
    have HB := Lib.hid hb
    clear hb
    go_wp2_with fail
    go_ret
    exact ⟨rfl, HB.out⟩

end Go.Proofs.Ytdelcaijehcaeaa
