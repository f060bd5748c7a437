/-
  Contracts of bitp.At and of the reference's SameWords.
-/
import Derived.Test.YtdelcaijehcaeaaSpare
namespace Go.Proofs.Ytdelcaijehcaeaa
set_option linter.unusedVariables false
open Go.RowKit

theorem ret_pair {a b c d : Value} (h1 : a = b) (h2 : c = d) : Ending.returned (.tuple #[a, c]) = Ending.returned (.tuple #[b, d]) := by rw [h1, h2]

set_option maxHeartbeats 1000000 in
theorem at_any (ao : Option Addr) (len cap : Nat) (bs : List Nat) (n i : Int) (w : World) (hr : Rd w (.slice ao len cap) (bs.map u8v))
    (h256 : ∀ i, bs.getD i 0 < 256) (hlen : len ≤ 17592186044416) :
    Calls Try.prog 16 #[.slice ao len cap, .int .i64 n, .int .i64 i] w fun e w' =>
      e = .returned (.tuple #[.int .u64 ((atB bs n i).getD 0 : Nat), .bool (atB bs n i).isSome]) ∧ ∃ k, w' = w.drewN k := by
  obtain ⟨hl0, _⟩ := rd_cells hr
  have HL := Lib.hid hl0
  clear hl0
  have hN := heldN_le n
  obtain ⟨N, hNe⟩ : ∃ N, N = heldN n := ⟨_, rfl⟩
  rw [← hNe] at hN
  have HN := Lib.hid hNe
  clear hNe
  by_cases h0 : N = 0
  · by_cases hi : 0 ≤ i ∧ i < 65535
    · have hat : atB bs n i = some 0 := by unfold atB; rw [← HN.out, if_pos h0, if_pos hi]
      obtain ⟨hi1, hi3⟩ := hi
      have hi2 : decide (i < 65535) = true := by simpa using hi3
      have HA := Lib.hid hat
      clear hat hr
      go_enter Try.func16, Try.ntmps16
      go_wp2_with (go_at_call 55; refine (held_any _ _).mono ?_; rw [← HN.out, h0]; rintro e w' ⟨rfl, rfl⟩)
      go_ret2
      exact ⟨by rw [HA.out]; rfl, 0, rfl⟩
    · have hat : atB bs n i = none := by unfold atB; rw [← HN.out, if_pos h0, if_neg hi]
      have HA := Lib.hid hat
      clear hat hr
      by_cases hi1 : 0 ≤ i
      · have hi2 : ¬ i < 65535 := by omega
        clear hi
        go_enter Try.func16, Try.ntmps16
        go_wp2_with (go_at_call 55; refine (held_any _ _).mono ?_; rw [← HN.out, h0]; rintro e w' ⟨rfl, rfl⟩)
        go_ret2
        refine ⟨?_, 0, rfl⟩
        rw [HA.out]
        refine ret_pair rfl ?_
        show Value.bool (decide (i < 65535)) = Value.bool false
        rw [decide_eq_false (by omega)]
      · clear hi
        go_enter Try.func16, Try.ntmps16
        go_wp2_with (go_at_call 55; refine (held_any _ _).mono ?_; rw [← HN.out, h0]; rintro e w' ⟨rfl, rfl⟩)
        go_ret2
        exact ⟨by rw [HA.out]; rfl, 0, rfl⟩
  · have hN1 : 1 ≤ N := by omega
    have hq0 : len * 8 / N ≤ len * 8 := Nat.div_le_self _ _
    have hqc : (len : Int) * 8 / (N : Int) = ((len * 8 / N : Nat) : Int) := by simp
    have HQ := Lib.hid hqc
    clear hqc
    by_cases hi : 0 ≤ i ∧ i < ((len * 8 / N : Nat) : Int)
    · obtain ⟨I, rfl⟩ := Int.eq_ofNat_of_zero_le hi.1
      have hI : I < len * 8 / N := by omega
      have hIN : (I + 1) * N ≤ len * 8 := (Nat.le_div_iff_mul_le (by omega)).1 hI
      rw [Nat.succ_mul] at hIN
      have hat : atB bs n (I : Int) = some (numB bs (I * N) N) := by unfold atB; rw [← HN.out, if_neg h0, ← HL.out, if_pos hi, Int.toNat_natCast]
      have HA := Lib.hid hat
      have hlt : ((I : Int)) < (len : Int) * 8 / (N : Int) := by rw [HQ.out]; omega
      have hmul : (I : Int) * (N : Int) = ((I * N : Nat) : Int) := by simp
      have hm0 : (0 : Int) ≤ (I : Int) * (N : Int) := by omega
      have hm1 : (I : Int) * (N : Int) ≤ 9223372036854775807 := by omega
      have HM := Lib.hid hmul
      have HR := Lib.hid hr
      have HI := Lib.hid hi
      clear hat hmul hr hi
      go_enter Try.func16, Try.ntmps16
      go_wp2_with (first
        | (go_at_call 55; refine (held_any _ _).mono ?_; rw [← HN.out]; rintro e w' ⟨rfl, rfl⟩)
        | (go_at_call 56; rw [HM.out]; refine (get_rd ao len cap bs (I * N) N _ HR.out h256 (by omega) hN (by omega)).mono ?_; rintro e w' ⟨rfl, k, rfl⟩))
      go_ret2
      exact ⟨by rw [HA.out]; rfl, _, rfl⟩
    · have hat : atB bs n i = none := by unfold atB; rw [← HN.out, if_neg h0, ← HL.out, if_neg hi]
      have HA := Lib.hid hat
      clear hat hr
      by_cases hi1 : 0 ≤ i
      · have hi2 : (len : Int) * 8 / (N : Int) ≤ i := by rw [HQ.out]; omega
        have hi3 : i ≥ (len : Int) * 8 / (N : Int) := hi2
        clear hi
        go_enter Try.func16, Try.ntmps16
        go_wp2_with (go_at_call 55; refine (held_any _ _).mono ?_; rw [← HN.out]; rintro e w' ⟨rfl, rfl⟩)
        go_ret2
        exact ⟨by rw [HA.out]; rfl, 0, rfl⟩
      · clear hi
        go_enter Try.func16, Try.ntmps16
        go_wp2_with (go_at_call 55; refine (held_any _ _).mono ?_; rw [← HN.out]; rintro e w' ⟨rfl, rfl⟩)
        go_ret2
        exact ⟨by rw [HA.out]; rfl, 0, rfl⟩

end Go.Proofs.Ytdelcaijehcaeaa
