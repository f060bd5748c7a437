/-
  The walk of BitpWidths.
-/
import Derived.Test.YtdelcaijehcaeaaAwaka
import Derived.Test.YtdelcaijehcaeaaIsRow
import Derived.Test.YtdelcaijehcaeaaBitpm
namespace Go.Proofs.Ytdelcaijehcaeaa
set_option linter.unusedVariables false
open Go.RowKit

set_option maxHeartbeats 1000000 in
theorem walk_BitpWidths (a0 : Int) (w0 : (Lit.int .u64 a0).wf = true) (w : World) :
    Calls Try.prog 3 #[.int .u64 a0] w fun e w' => e = .returned (.bool true) ∧ Below w.heap.size w w' := by
  obtain ⟨h0, h1⟩ := wf_u64 w0
  clear w0
  obtain ⟨u, rfl⟩ := Int.eq_ofNat_of_zero_le h0
  have hu : u < 18446744073709551616 := by omega
  clear h0 h1
  obtain ⟨b1, b2, b3⟩ := bitLen_spec u hu
  obtain ⟨L, hL⟩ : ∃ L, L = Lib.bitLen u := ⟨_, rfl⟩
  rw [← hL] at b1 b2 b3
  have HL := Lib.hid hL
  have B2 := Lib.hid b2
  have hmod : u % 2 ^ L = u := Nat.mod_eq_of_lt b2
  have hat : atB (packB (heldN (L : Int)) [u]) (L : Int) 0 = some u := by
    rw [heldN_id L b1]
    have := at_pack L [u] 0 b1 (by simp) (by decide)
    simpa [hmod] using this
  have HA := Lib.hid hat
  have hdiv : ((u : Int) / 2 ^ L != 0) = false := by
    have : (u : Int) / 2 ^ L = ((u / 2 ^ L : Nat) : Int) := by simp
    rw [this, Nat.div_eq_of_lt b2]; rfl
  clear hL hat hmod b2
  obtain ⟨bs, hbs⟩ : ∃ bs, bs = packB (heldN (L : Int)) [u] := ⟨_, rfl⟩
  have HM := Lib.hid (show ∀ x ∈ bs, x < 256 by rw [hbs]; exact packB_mem _ _)
  have HBL := Lib.hid (show bs.length ≤ 17592186044416 by rw [hbs, packB_length]; have := heldN_le (L : Int); simp; omega)
  have HA' := Lib.hid (show atB bs (L : Int) 0 = some u by rw [hbs]; exact HA.out)
  have HBS := Lib.hid hbs.symm
  have HU := Lib.hid hu
  clear hbs
  by_cases hz : u = 0
  · subst hz
    have hL0 : L = 0 := by have := HL.out; rw [this]; decide
    subst hL0
    have HA0 := Lib.hid (show atB bs 0 0 = some 0 by simpa using HA'.out)
    have HBS0 := Lib.hid (show packB (heldN 0) [0] = bs by simpa using HBS.out)
    go_enter Try.func3, Try.ntmps3
    go_wp2_with fail
    refine (width_lit (U := 0) rfl (by decide) (show Lib.bitLen 0 = 0 by decide)).mono ?_
    rintro e w6 ⟨rfl, rfl⟩
    go_wp2_with fail
    refine (pack_lit (rd_lit w _ _ 1 ([0].map u64v) rfl rfl (by decide)) (by decide) (by decide) HBS0.out).mono ?_
    rintro e w2 ⟨ao, cap, rfl, hown, hb⟩
    have HR2 := Lib.hid (rd_own_map hown)
    have HB2 := Lib.hid (below_then (below_alloc w _) hb)
    clear hown hb
    go_wp2_with fail
    refine (at_lit HR2.out HM.out HBL.out HA0.out).mono ?_
    rintro e w3 ⟨rfl, hb⟩
    have HB3 := Lib.hid (below_then HB2.out hb)
    clear hb
    go_wp2_with fail
    refine (awake1_any _).mono ?_
    rintro e w4 ⟨rfl, hb⟩
    have HB4 := Lib.hid (below_then HB3.out hb)
    clear hb
    go_wp2_with fail
    go_ret
    exact ⟨rfl, HB4.out⟩
  · have hL1 : 1 ≤ L := by
      rcases Nat.eq_zero_or_pos L with h | h
      · have := B2.out; rw [h] at this; simp at this; omega
      · exact h
    have b4 := b3 hL1
    have hdiv1 : ((u : Int) / 2 ^ (L - 1) != 1) = false := by
      have : (u : Int) / 2 ^ (L - 1) = ((u / 2 ^ (L - 1) : Nat) : Int) := by simp
      rw [this, b4]; rfl
    have hne : ((u : Int) == 0) = false := by rw [beq_eq_false_iff_ne]; omega
    have heq : ((u : Int) == (u : Int)) = true := by rw [beq_iff_eq]
    clear b3 b4
    by_cases hbig : 9223372036854775808 ≤ u
    · have hL64 : L = 64 := by
        have h1 := B2.out
        rcases Nat.lt_or_ge L 64 with h | h
        · have h2 : (2 : Nat) ^ L ≤ 2 ^ 63 := Nat.pow_le_pow_right (by decide) (by omega)
          have h3 : (2 : Nat) ^ 63 = 9223372036854775808 := by decide
          omega
        · omega
      subst hL64
      have HA6 := Lib.hid (show atB bs 64 0 = some u by simpa using HA'.out)
      have HBS6 := Lib.hid (show packB (heldN 64) [u] = bs by simpa using HBS.out)
      have hge : decide ((9223372036854775808 : Int) ≤ (u : Int)) = true := by simp; omega
      go_enter Try.func3, Try.ntmps3
      go_wp2_with fail
      refine (width_lit (U := u) rfl HU.out HL.out.symm).mono ?_
      rintro e w6 ⟨rfl, rfl⟩
      go_wp2_with fail
      refine (pack_lit (rd_lit w _ _ 1 ([u].map u64v) rfl rfl (by unfold maxLen; omega)) (by simpa using HU.out) (by simp) HBS6.out).mono ?_
      rintro e w2 ⟨ao, cap, rfl, hown, hb⟩
      have HR2 := Lib.hid (rd_own_map hown)
      have HB2 := Lib.hid (below_then (below_alloc w _) hb)
      clear hown hb
      go_wp2_with fail
      refine (at_lit HR2.out HM.out HBL.out HA6.out).mono ?_
      rintro e w3 ⟨rfl, hb⟩
      have HB3 := Lib.hid (below_then HB2.out hb)
      clear hb
      go_wp2_with fail
      refine (awake1_any _).mono ?_
      rintro e w4 ⟨rfl, hb⟩
      have HB4 := Lib.hid (below_then HB3.out hb)
      clear hb
      go_wp2_with fail
      go_ret
      exact ⟨rfl, HB4.out⟩
    · have hL63 : L < 64 := by
        rcases Nat.lt_or_ge L 64 with h | h
        · exact h
        · exfalso
          have h1 : L = 64 := by omega
          have h2 := (bitLen_spec u HU.out).2.2 (by rw [← HL.out]; omega)
          rw [← HL.out, h1, Nat.div_eq_of_lt (by have h3 : (2 : Nat) ^ (64 - 1) = 9223372036854775808 := by decide
                                                 omega)] at h2
          cases h2
      have hge : decide ((9223372036854775808 : Int) ≤ (u : Int)) = false := by simp; omega
      have hlt64 : decide ((L : Int) < 64) = true := by simp; omega
      have HD := Lib.hid (show Lib.bitLen (2 * u) = L + 1 by rw [bitLen_double (by omega) (by omega), ← HL.out])
      have HLL := Lib.hid (show ((L + 1 : Nat) : Int) = (L : Int) + 1 by omega)
      have hdbl : 2 * u < 18446744073709551616 := by omega
      have heq2 : ((L : Int) + 1 == (L : Int) + 1) = true := by rw [beq_iff_eq]
      go_enter Try.func3, Try.ntmps3
      go_wp2_with fail
      refine (width_lit (U := u) rfl HU.out HL.out.symm).mono ?_
      rintro e w6 ⟨rfl, rfl⟩
      go_wp2_with fail
      refine (pack_lit (rd_lit w _ _ 1 ([u].map u64v) rfl rfl (by unfold maxLen; omega)) (by simpa using HU.out) (by simp) HBS.out).mono ?_
      rintro e w2 ⟨ao, cap, rfl, hown, hb⟩
      have HR2 := Lib.hid (rd_own_map hown)
      have HB2 := Lib.hid (below_then (below_alloc w _) hb)
      clear hown hb
      go_wp2_with fail
      refine (at_lit HR2.out HM.out HBL.out HA'.out).mono ?_
      rintro e w3 ⟨rfl, hb⟩
      have HB3 := Lib.hid (below_then HB2.out hb)
      clear hb
      go_wp2_with fail
      refine (width_lit (U := 2 * u) (by first | rfl | (rw [IntKind.wrap_u64]; omega) | omega) hdbl HD.out).mono ?_
      rw [HLL.out]
      rintro e w6 ⟨rfl, rfl⟩
      go_wp2_with fail
      refine (awake1_any _).mono ?_
      rintro e w4 ⟨rfl, hb⟩
      have HB4 := Lib.hid (below_then HB3.out hb)
      clear hb
      go_wp2_with fail
      go_ret
      exact ⟨rfl, HB4.out⟩

end Go.Proofs.Ytdelcaijehcaeaa
