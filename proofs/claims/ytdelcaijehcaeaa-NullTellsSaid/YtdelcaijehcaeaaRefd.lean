/-
  Contract of the reference's Unpack.
-/
import Derived.Test.YtdelcaijehcaeaaRefc
import Derived.Deep.RegionHeld3
namespace Go.Proofs.Ytdelcaijehcaeaa
set_option linter.unusedVariables false
open Go.RowKit

theorem strOf_beq {a b : List Nat} (ha : ∀ i, a.getD i 0 < 256) (hb : ∀ i, b.getD i 0 < 256) : ((strOf a).toList == (strOf b).toList) = (a == b) := by
  rw [strOf_toList, strOf_toList, Bool.eq_iff_iff, beq_iff_eq, beq_iff_eq]
  constructor
  · intro h
    have hl : a.length = b.length := by have := congrArg List.length h; simpa using this
    apply List.ext_getElem hl
    intro i h1 h2
    have h3 : (a.map UInt8.ofNat)[i]'(by simpa using h1) = (b.map UInt8.ofNat)[i]'(by simpa using h2) := by simp only [h]
    rw [List.getElem_map, List.getElem_map] at h3
    have h4 := congrArg UInt8.toNat h3
    have h5 := ha i
    have h6 := hb i
    rw [List.getD_eq_getElem?_getD, List.getElem?_eq_getElem h1] at h5
    rw [List.getD_eq_getElem?_getD, List.getElem?_eq_getElem h2] at h6
    simp only [Option.getD_some] at h5 h6
    rwa [UInt8.toNat_ofNat', UInt8.toNat_ofNat', Nat.mod_eq_of_lt h5, Nat.mod_eq_of_lt h6] at h4
  · rintro rfl; rfl

theorem below_drw' (B : Nat) (w : World) : Below B w w.drew := ⟨rfl, rfl, rfl, Nat.le_refl _, fun _ _ => rfl⟩

/-- The numbers of N bits that stand in bytes, the first C of them. -/
def numsB (bs : List Nat) (N C : Nat) : List Nat := (List.range C).map fun i => numB bs (i * N) N

theorem numsB_length (bs : List Nat) (N C : Nat) : (numsB bs N C).length = C := by simp [numsB]

theorem numsB_succ (bs : List Nat) (N C : Nat) : numsB bs N (C + 1) = numsB bs N C ++ [numB bs (C * N) N] := by
  unfold numsB; rw [List.range_succ, List.map_append]; rfl

theorem numsB_get (bs : List Nat) (N C i : Nat) (h : i < C) : (numsB bs N C).getD i 0 = numB bs (i * N) N := by
  unfold numsB; rw [List.getD_eq_getElem?_getD, List.getElem?_map, List.getElem?_range h]; rfl

theorem numsB_lt (bs : List Nat) (N C : Nat) (hN : N ≤ 64) : ∀ x ∈ numsB bs N C, x < 18446744073709551616 := by
  intro x hx
  obtain ⟨i, _, rfl⟩ := List.mem_map.1 hx
  have h1 := numB_lt bs (i * N) N
  have h2 : 2 ^ N ≤ 2 ^ 64 := Nat.pow_le_pow_right (by decide) hN
  have h3 : (2 : Nat) ^ 64 = 18446744073709551616 := by decide
  omega

theorem pack_nums {bs : List Nat} {N C : Nat} (h256 : ∀ i, bs.getD i 0 < 256) (hl : bs.length = (N * C + 7) / 8) : (packB N (numsB bs N C) == bs) = spareB bs (N * C) := by
  rw [Bool.eq_iff_iff, beq_iff_eq]
  constructor
  · intro h
    have := spare_pack N (numsB bs N C)
    rwa [h, numsB_length] at this
  · intro h
    unfold spareB at h
    rw [beq_iff_eq] at h
    refine bytes_ext (by rw [packB_length, numsB_length, hl]) (packB_lt _ _) h256 fun q hq => ?_
    rw [packB_length, numsB_length] at hq
    unfold packB
    rw [numsB_length, bytesOf_bit _ _ q hq]
    by_cases hqc : q < N * C
    · have hN : 0 < N := by
        rcases Nat.eq_zero_or_pos N with h0 | h0
        · subst h0; omega
        · exact h0
      have hd : q / N < C := by rw [Nat.div_lt_iff_lt_mul hN, Nat.mul_comm]; exact hqc
      rw [numsB_get _ _ _ _ hd, numB_bits]
      have hm := Nat.mod_lt q hN
      have e1 : N - 1 - (N - 1 - q % N) = q % N := by omega
      have e2 : q / N * N + q % N = q := by rw [Nat.mul_comm]; exact Nat.div_add_mod q N
      have e3 : N - 1 - q % N < N := by omega
      rw [e1, e2]
      simp [hqc, e3]
    · have hlast : q / 8 = bs.length - 1 := by omega
      simp only [hqc, decide_false, Bool.false_and]
      unfold bitB
      rw [hlast]
      have h7 : 7 - q % 8 < 8 * bs.length - N * C := by omega
      have := congrArg (fun z => z.testBit (7 - q % 8)) h
      simp only [Nat.testBit_mod_two_pow, Nat.zero_testBit] at this
      simpa [h7] using this.symm

set_option maxRecDepth 100000 in
set_option maxHeartbeats 2000000 in
theorem refUnpack_any (v : Value) (bs : List Nat) (n c : Int) (w : World) (hr : Rd w v (bs.map u8v))
    (h256 : ∀ x ∈ bs, x < 256) (hlen : bs.length ≤ 17592186044416) :
    Calls Try.prog 43 #[v, .int .i64 n, .int .i64 c] w fun e w' => ∃ z, e = .returned (.tuple #[z, .bool (unpackB bs n c).isSome]) ∧ Rd w' z (((unpackB bs n c).getD []).map u64v) ∧ Below w.heap.size w w' := by
  have hr2 := hr
  obtain ⟨ao, cap, hv, hcap, hcell⟩ := hr2
  rw [List.length_map] at hv
  subst hv
  obtain ⟨len, hlene⟩ : ∃ len, len = bs.length := ⟨_, rfl⟩
  have HL := Lib.hid hlene
  rw [← hlene] at hr hlen ⊢
  have HR := Lib.hid hr
  have H256 := Lib.hid (lt256 bs h256)
  clear hr hcap hcell hlene h256
  have hN := heldN_le n
  obtain ⟨N, hNe⟩ : ∃ N, N = heldN n := ⟨_, rfl⟩
  rw [← hNe] at hN
  have HN := Lib.hid hNe
  have HM := Lib.hid (heldN_mm hNe)
  clear hNe
  by_cases hc0 : 0 ≤ c
  · obtain ⟨C, rfl⟩ := Int.eq_ofNat_of_zero_le hc0
    by_cases hc1 : C ≤ 65535
    · have hNC : N * C ≤ 64 * 65535 := Nat.mul_le_mul hN hc1
      have hm0 : (0 : Int) ≤ (N : Int) * (C : Int) := by have : ((N : Int) * (C : Int)) = ((N * C : Nat) : Int) := by simp
                                                         omega
      have hm1 : (N : Int) * (C : Int) ≤ 4194240 := by have : ((N : Int) * (C : Int)) = ((N * C : Nat) : Int) := by simp
                                                       omega
      have hle : ((N : Int) * (C : Int) + 7) / 8 = ((((N * C + 7) / 8 : Nat)) : Int) := by simp
      have HLE := Lib.hid hle
      clear hle
      by_cases hl : len = (N * C + 7) / 8
      · have hb : ((len : Int) != ((N : Int) * (C : Int) + 7) / 8) = false := by rw [HLE.out, hl]; simp
        have HLN := Lib.hid hl
        clear hl
        go_enter Try.func43, Try.ntmps43
        go_upto_region 2 with (fail)
        rw [HM.out]
        obtain ⟨i0, hi, hz0, hz1, hz2⟩ := info_parts info64
        go_wp2_with fail
        go_loopw [8, 9] (fun vb i wr => ∃ k : Nat, k ≤ C ∧ i = .int .i64 (k : Int) ∧ wr.ownsRow w.heap.size 22 1 vb k ((numsB bs N k).map u64v) ∧ Below w.heap.size w wr) (fun _ i _ => C - (intOf i).toNat)
        case atStart => exact ⟨0, Nat.zero_le _, rfl, owns_nil _ _ _, Below.refl _ _⟩
        case round =>
          obtain ⟨k, hk, rfl, hown, hbel⟩ := hrel
          obtain ⟨aob, capb, hv⟩ := own_shape hown
          subst hv
          have HO := Lib.hid hown
          have HB := Lib.hid hbel
          clear hown hbel
          by_cases hlt : k < C
          · have hkN : k * N + N ≤ N * C := by
              have h1 : (k + 1) * N ≤ C * N := Nat.mul_le_mul_right _ hlt
              rw [Nat.succ_mul, Nat.mul_comm C N] at h1
              exact h1
            have HKM := Lib.hid (show (k : Int) * (N : Int) = ((k * N : Nat) : Int) by simp)
            have hk0 : (0 : Int) ≤ (k : Int) * (N : Int) := by rw [HKM.out]; omega
            have hk1 : (k : Int) * (N : Int) ≤ 4194240 := by rw [HKM.out]; omega
            have hfit : k * N + N ≤ 8 * bs.length := by rw [← HL.out, HLN.out]; omega
            obtain ⟨u, hu⟩ : ∃ u, u = numB bs (k * N) N := ⟨_, rfl⟩
            have HU := Lib.hid hu
            have HRW := Lib.hid (HR.out.kept HB.out)
            clear hu
            go_wp2_with (first
              | (go_at_call 69; rw [HKM.out]; go_must (refine (refNumber_any _ bs (k * N) N _ HRW.out H256.out hfit hN (by rw [← HL.out]; exact hlen)).mono ?_); rw [← HU.out]; rintro e w2 ⟨rfl, kd, rfl⟩)
              | (at_builtin; go_must (refine wpList_append_own _ rfl _ _ 31 rfl w.heap.size 22 i0 (.int .u64 0) 1 8 Try.underlying31 hi hz0 hz1 hz2 rfl (by decide) _ _ _ rfl ((ownsRow_drewN HO.out kd).alloc _) ⟨(wr.drewN kd).heap.size, 0, none⟩ 1 1 [u64v u] rfl rfl (one_cell (wr.drewN kd) (u64v u) 22) (by intro z hz; simp at hz; subst hz; rfl) (by unfold maxLen; omega) (by omega) (below_lay (below_draws HB.out kd) _).size ?_); intro v' w3 hown' hgrow _))
            have HO' := Lib.hid hown'
            have HB' := Lib.hid (below_own (below_lay (below_draws HB.out kd) _) ((ownsRow_drewN HO.out kd).alloc _) hgrow)
            clear hown' hgrow
            go_roundw
            case rel =>
              refine ⟨k + 1, by omega, by go_num, ?_, HB'.out⟩
              rw [numsB_succ, ← HU.out, List.map_append]
              exact HO'.out
            case measure => simp [intOf]; omega
          · obtain rfl : k = C := by omega
            have HRN := Lib.hid (Rd.of_owns HO.out)
            have HRB := Lib.hid (HR.out.kept HB.out)
            have HPS := Lib.hid (pack_nums (N := N) (C := k) H256.out (HL.out.symm.trans HLN.out))
            obtain ⟨pb, hpb⟩ : ∃ pb, packB (heldN (N : Int)) (numsB bs N k) = pb := ⟨_, rfl⟩
            have HPB := Lib.hid hpb
            have HPM := Lib.hid (show ∀ x ∈ pb, x < 256 by rw [← hpb]; exact packB_mem _ _)
            rw [heldN_id N hN] at hpb
            rw [hpb] at HPS
            have HNL := Lib.hid (numsB_lt bs N k hN)
            have HC1 := Lib.hid (show (numsB bs N k).length ≤ 65535 by rw [numsB_length]; exact hc1)
            clear hpb hi hz0 hz1 hz2
            obtain ⟨W0, hW0⟩ : ∃ W0 : World, W0 = wr := ⟨_, rfl⟩
            rw [← hW0] at HRN HRB HB ⊢
            clear hW0
            go_upto_region 9 with (fail)
            have hS1 := run_str (P := Try.prog) W0 27 9 5 Try.underlying27 Try.underlying5 Try.underlying9 HRB.out H256.out
            have hS2 := run_str (P := Try.prog) W0.drew 27 9 5 Try.underlying27 Try.underlying5 Try.underlying9 (HRB.out.kept (below_drw' _ _)) H256.out
            go_region_with (first
              | (go_at_call 42; go_must (refine (refPack_any _ (numsB bs N k) (N : Int) _ (HRN.out.kept (below_drw' _ _)) HNL.out HC1.out).mono ?_); rw [HPB.out]; rintro e w2 ⟨ao2, cap2, rfl, hown2, hb2⟩; have hT1 : Below W0.heap.size W0 w2 := below_then (below_drw' _ _) hb2; have hT2 := run_str (P := Try.prog) w2 27 9 5 Try.underlying27 Try.underlying5 Try.underlying9 (HRB.out.kept hT1) H256.out; have hT3 := run_str (P := Try.prog) w2 27 9 5 Try.underlying27 Try.underlying5 Try.underlying9 (rd_own_map hown2) (lt256 _ HPM.out); simp only [List.length_map]))
            all_goals
              have HB2 := Lib.hid (below_then HB.out hT1)
              have HRO := Lib.hid (HRN.out.kept hT1)
              clear hS1 hS2 hown2 hb2 hT1
              rcases hsp : spareB bs (N * k) with _ | _
              · have hcm : ((strOf pb).toList == (strOf bs).toList) = false := by rw [strOf_beq (lt256 _ HPM.out) H256.out, HPS.out, hsp]
                have hcm2 : ¬ (strOf pb).toList = (strOf bs).toList := by intro h; rw [h] at hcm; simp at hcm
                have HA := Lib.hid (show unpackB bs n (k : Int) = none by unfold unpackB; rw [← HN.out, Int.toNat_natCast, if_neg (by rintro ⟨_, _, _, h⟩; rw [hsp] at h; cases h)])
                clear hsp
                go_wp2_with fail
                all_goals first
                  | (exfalso; rename_i hx; rw [hcm] at hx; simp at hx; done)
                  | (go_ret2
                     exact ⟨_, by rw [HA.out]; rfl, by rw [HA.out]; exact Rd.nil _, HB2.out⟩)
              · have hcm : (strOf pb).toList = (strOf bs).toList := by
                  have h1 : ((strOf pb).toList == (strOf bs).toList) = true := by rw [strOf_beq (lt256 _ HPM.out) H256.out, HPS.out, hsp]
                  exact beq_iff_eq.1 h1
                have HA := Lib.hid (show unpackB bs n (k : Int) = some (numsB bs N k) by unfold unpackB; rw [← HN.out, Int.toNat_natCast, ← HL.out, if_pos ⟨by omega, by omega, HLN.out, hsp⟩]; rfl)
                clear hsp
                go_wp2_with fail
                all_goals first
                  | (exfalso; rename_i hx; rw [hcm] at hx; simp at hx; done)
                  | (go_ret2
                     exact ⟨_, by rw [HA.out]; rfl, by rw [HA.out]; exact HRO.out, HB2.out⟩)
      · have hb : ((len : Int) != ((N : Int) * (C : Int) + 7) / 8) = true := by rw [HLE.out, bne_iff_ne]; omega
        have HA := Lib.hid (show unpackB bs n (C : Int) = none by unfold unpackB; rw [← HN.out, Int.toNat_natCast, ← HL.out, if_neg (by rintro ⟨_, _, h, _⟩; exact hl h)])
        clear hl
        go_enter Try.func43, Try.ntmps43
        go_upto_region 2 with (fail)
        rw [HM.out]
        go_wp2_with fail
        go_ret2
        exact ⟨_, by rw [HA.out]; rfl, by rw [HA.out]; exact Rd.nil _, Below.refl _ _⟩
    · have h2' : decide ((65535 : Int) < (C : Int)) = true := by simp; omega
      have HA := Lib.hid (show unpackB bs n (C : Int) = none by unfold unpackB; rw [if_neg (by rintro ⟨_, h, _⟩; omega)])
      clear hc1
      go_enter Try.func43, Try.ntmps43
      go_upto_region 2 with (fail)
      rw [HM.out]
      go_wp2_with fail
      go_ret2
      exact ⟨_, by rw [HA.out]; rfl, by rw [HA.out]; exact Rd.nil _, Below.refl _ _⟩
  · have HA := Lib.hid (show unpackB bs n c = none by unfold unpackB; rw [if_neg (by rintro ⟨h, _⟩; omega)])
    go_enter Try.func43, Try.ntmps43
    go_upto_region 2 with (fail)
    rw [HM.out]
    go_wp2_with fail
    go_ret2
    exact ⟨_, by rw [HA.out]; rfl, by rw [HA.out]; exact Rd.nil _, Below.refl _ _⟩

end Go.Proofs.Ytdelcaijehcaeaa
