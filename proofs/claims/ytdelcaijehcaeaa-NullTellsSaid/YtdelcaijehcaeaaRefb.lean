/-
  Contract of the reference's At.
-/
import Derived.Test.YtdelcaijehcaeaaRefa
import Derived.Test.YtdelcaijehcaeaaAt
import Derived.Deep.DeepCutAuto
namespace Go.Proofs.Ytdelcaijehcaeaa
set_option linter.unusedVariables false
open Go.RowKit

theorem heldN_mm {n : Int} {N : Nat} (h : N = heldN n) : min (max n 0) 64 = (N : Int) := by unfold heldN at h; omega

set_option maxRecDepth 100000 in
set_option maxHeartbeats 1000000 in
theorem refAt_any (v : Value) (bs : List Nat) (n i : Int) (w : World) (hr : Rd w v (bs.map u8v))
    (h256 : ∀ i, bs.getD i 0 < 256) (hlen : bs.length ≤ 17592186044416) :
    Calls Try.prog 44 #[v, .int .i64 n, .int .i64 i] w fun e w' => e = .returned (.tuple #[.int .u64 ((atB bs n i).getD 0 : Nat), .bool (atB bs n i).isSome]) ∧ Below w.heap.size w w' := by
  have hr2 := hr
  obtain ⟨ao, cap, hv, hcap, hcell⟩ := hr2
  rw [List.length_map] at hv
  subst hv
  obtain ⟨len, hlene⟩ : ∃ len, len = bs.length := ⟨_, rfl⟩
  have HL := Lib.hid hlene
  rw [← hlene] at hr hlen ⊢
  have HR := Lib.hid hr
  clear hr hcap hcell hlene
  have hN := heldN_le n
  obtain ⟨N, hNe⟩ : ∃ N, N = heldN n := ⟨_, rfl⟩
  rw [← hNe] at hN
  have HN := Lib.hid hNe
  have HM := Lib.hid (heldN_mm hNe)
  clear hNe
  by_cases hi0 : 0 ≤ i
  · obtain ⟨I, rfl⟩ := Int.eq_ofNat_of_zero_le hi0
    by_cases h0 : N = 0
    · subst h0
      by_cases hi : I < 65535
      · have HA := Lib.hid (show atB bs n (I : Int) = some 0 by unfold atB; rw [← HN.out, if_pos rfl, if_pos (by omega)])
        have hi2 : decide ((65535 : Int) ≤ (I : Int)) = false := by simp; omega
        have hi3 : ¬ (65535 : Int) ≤ (I : Int) := by omega
        have HI := Lib.hid hi
        clear hi
        go_enter Try.func44, Try.ntmps44
        go_upto_region 2 with (fail)
        rw [HM.out, Int.natCast_zero]
        go_wp2_with (go_at_call 69; go_must (refine (refNumber_any _ bs 0 0 _ HR.out h256 (by omega) (by decide) (by rw [← HL.out]; exact hlen)).mono ?_); rintro e w' ⟨rfl, k, rfl⟩)
        go_ret2
        exact ⟨by rw [HA.out]; rfl, below_drew _ _ _⟩
      · have HA := Lib.hid (show atB bs n (I : Int) = none by unfold atB; rw [← HN.out, if_pos rfl, if_neg (by omega)])
        have hi2 : (65535 : Int) ≤ (I : Int) := by omega
        have HI := Lib.hid hi
        clear hi
        go_enter Try.func44, Try.ntmps44
        go_upto_region 2 with (fail)
        rw [HM.out]
        go_wp2_with fail
        go_ret2
        exact ⟨by rw [HA.out]; rfl, Below.refl _ _⟩
    · have hN1 : 1 ≤ N := by omega
      have hq0 : len * 8 / N ≤ len * 8 := Nat.div_le_self _ _
      have HQ := Lib.hid (show 8 * (len : Int) / (N : Int) = ((len * 8 / N : Nat) : Int) by rw [Int.mul_comm]; simp)
      by_cases hi : I < len * 8 / N
      · have hIN : (I + 1) * N ≤ len * 8 := (Nat.le_div_iff_mul_le (by omega)).1 hi
        rw [Nat.succ_mul] at hIN
        have HA := Lib.hid (show atB bs n (I : Int) = some (numB bs (I * N) N) by unfold atB; rw [← HN.out, if_neg h0, ← HL.out, if_pos (by omega), Int.toNat_natCast])
        have hlt : ¬ ((I : Int)) ≥ 8 * (len : Int) / (N : Int) := by rw [HQ.out]; omega
        have hmul : (I : Int) * (N : Int) = ((I * N : Nat) : Int) := by simp
        have hm0 : (0 : Int) ≤ (I : Int) * (N : Int) := by omega
        have hm1 : (I : Int) * (N : Int) ≤ 9223372036854775807 := by omega
        have HMU := Lib.hid hmul
        clear hmul
        go_enter Try.func44, Try.ntmps44
        go_upto_region 2 with (fail)
        rw [HM.out]
        go_wp2_with (go_at_call 69; rw [HMU.out]; go_must (refine (refNumber_any _ bs (I * N) N _ HR.out h256 (by rw [← HL.out]; omega) hN (by rw [← HL.out]; exact hlen)).mono ?_); rintro e w' ⟨rfl, k, rfl⟩)
        go_ret2
        exact ⟨by rw [HA.out]; rfl, below_drew _ _ _⟩
      · have HA := Lib.hid (show atB bs n (I : Int) = none by unfold atB; rw [← HN.out, if_neg h0, ← HL.out, if_neg (by omega)])
        have hlt : ((I : Int)) ≥ 8 * (len : Int) / (N : Int) := by rw [HQ.out]; omega
        go_enter Try.func44, Try.ntmps44
        go_upto_region 2 with (fail)
        rw [HM.out]
        go_wp2_with fail
        go_ret2
        exact ⟨by rw [HA.out]; rfl, Below.refl _ _⟩
  · have HA := Lib.hid (show atB bs n i = none by
      unfold atB; rw [← HN.out]
      split
      · rw [if_neg (by omega)]
      · rw [if_neg (by omega)])
    go_enter Try.func44, Try.ntmps44
    go_upto_region 2 with (fail)
    rw [HM.out]
    go_wp2_with fail
    go_ret2
    exact ⟨by rw [HA.out]; rfl, Below.refl _ _⟩
end Go.Proofs.Ytdelcaijehcaeaa
