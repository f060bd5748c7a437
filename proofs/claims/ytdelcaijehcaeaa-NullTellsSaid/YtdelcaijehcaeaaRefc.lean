/-
  Contract of the reference's Pack.
-/
import Derived.Test.YtdelcaijehcaeaaRefb
namespace Go.Proofs.Ytdelcaijehcaeaa
set_option linter.unusedVariables false
open Go.RowKit

theorem or_val (x y s : Nat) (hs : s < 8) (hx : x < 256) (hy : y < 2) : bits .or .u8 (x : Int) ((y : Int) * 2 ^ s % 256) = ((x ||| y * 2 ^ s : Nat) : Int) := by
  have h1 : y * 2 ^ s < 256 := by
    have h2 : (2 : Nat) ^ s ≤ 2 ^ 7 := Nat.pow_le_pow_right (by decide) (by omega)
    have h3 : y * 2 ^ s ≤ 1 * 2 ^ s := Nat.mul_le_mul_right _ (by omega)
    omega
  have e : (y : Int) * 2 ^ s % 256 = ((y * 2 ^ s : Nat) : Int) := by
    have : (y : Int) * 2 ^ s = ((y * 2 ^ s : Nat) : Int) := by simp
    rw [this]; omega
  rw [e, u8_or_nat _ _ hx h1, Nat.or_comm]

theorem own_lower {w : World} {B B' : Nat} {E : TypeId} {v : Value} {n : Nat} {xs : List Value} (h : w.ownsRow B E 1 v n xs) (hb : B' ≤ B) : w.ownsRow B' E 1 v n xs := by
  refine ⟨h.1, ?_⟩
  rcases h.2 with h | ⟨g, cap, cur, h1, h2, h3⟩
  · exact .inl h
  · exact .inr ⟨g, cap, cur, h1, Nat.le_trans hb h2, h3⟩

theorem bit_of (x K : Nat) (hx : x < 18446744073709551616) : bits .and .u64 ((x : Int) / 2 ^ K) 1 % 256 = ((x.testBit K).toNat : Int) := by
  rw [div_cast, u64_and_one _ (Nat.lt_of_le_of_lt (Nat.div_le_self _ _) hx), Nat.testBit_eq_decide_div_mod_eq]
  have h : x / 2 ^ K % 2 = 0 ∨ x / 2 ^ K % 2 = 1 := by omega
  rcases h with h | h <;> rw [h] <;> rfl

set_option maxRecDepth 100000 in
set_option maxHeartbeats 2000000 in
theorem refPack_any (v : Value) (us : List Nat) (n : Int) (w : World) (hr : Rd w v (us.map u64v))
    (h64 : ∀ x ∈ us, x < 18446744073709551616) (hlen : us.length ≤ 65535) :
    Calls Try.prog 42 #[.int .i64 n, v] w (RetOwn w.heap.size 5 ((packB (heldN n) us).map u8v) w) := by
  have hr2 := hr
  obtain ⟨ao, cap, hv, hcap, hcell⟩ := hr2
  rw [List.length_map] at hv
  subst hv
  obtain ⟨len, hlene⟩ : ∃ len, len = us.length := ⟨_, rfl⟩
  have HL := Lib.hid hlene
  rw [← hlene] at hr hlen ⊢
  have HR := Lib.hid hr
  clear hr hcap hcell hlene
  have hN := heldN_le n
  obtain ⟨N, hNe⟩ : ∃ N, N = heldN n := ⟨_, rfl⟩
  rw [← hNe] at hN ⊢
  have HN := Lib.hid hNe
  have HM := Lib.hid (heldN_mm hNe)
  clear hNe
  go_enter Try.func42, Try.ntmps42
  go_upto_region 2 with (fail)
  rw [HM.out]
  go_wp2_with fail
  obtain ⟨i0, hi, hz0, hz1, hz2⟩ := info_parts info8
  go_loopw [5, 6] (fun vb i wr => ∃ k q : Nat, k ≤ len ∧ q = N * k ∧ i = .int .i64 (k : Int) ∧ wr.ownsRow w.heap.size 5 1 vb q ((bitsL N us q).map u8v) ∧ Below w.heap.size w wr) (fun _ i _ => len - (intOf i).toNat)
  case atStart => exact ⟨0, 0, Nat.zero_le _, rfl, rfl, owns_nil _ _ _, Below.refl _ _⟩
  case round =>
    obtain ⟨k, q, hk, hq, rfl, hown, hbel⟩ := hrel
    obtain ⟨aob, capb, hv⟩ := own_shape hown
    subst hv
    have HO := Lib.hid hown
    have HB := Lib.hid hbel
    have HQ := Lib.hid hq
    have hqm : q ≤ 64 * 65535 := by rw [hq]; exact Nat.mul_le_mul hN (by omega)
    clear hown hbel hq
    by_cases hlt : k < len
    · obtain ⟨wo, rfl⟩ : ∃ wo : World, wo = wr := ⟨_, rfl⟩
      obtain ⟨x, hxe⟩ : ∃ x, x = us.getD k 0 := ⟨_, rfl⟩
      have HX := Lib.hid hxe
      clear hxe
      go_wp2_with fail
      go_loopw [5, 7] (fun vb kk wr => ∃ r q1 : Nat, r ≤ N ∧ q1 = q + r ∧ kk = .int .i64 ((N : Int) - 1 - (r : Int)) ∧ wr.ownsRow w.heap.size 5 1 vb q1 ((bitsL N us q1).map u8v) ∧ Below w.heap.size w wr) (fun _ kk _ => (intOf kk + 1).toNat)
      case atStart => exact ⟨0, q, Nat.zero_le _, rfl, by go_num, HO.out, HB.out⟩
      case round =>
        obtain ⟨r, q1, hr, hq1, rfl, hown, hbel⟩ := hrel
        obtain ⟨aoc, capc, hv⟩ := own_shape hown
        subst hv
        have HO1 := Lib.hid hown
        have HB1 := Lib.hid hbel
        have HQ1 := Lib.hid hq1
        have hq1m : q1 ≤ 64 * 65535 := by
          have h1 := HQ.out
          have h2 : N * (k + 1) ≤ 64 * 65535 := Nat.mul_le_mul hN (by omega)
          rw [Nat.mul_succ] at h2
          omega
        have HOA := Lib.hid (fun o => hown.alloc o)
        clear hown hbel hq1 HO HB
        by_cases hr2 : r < N
        · obtain ⟨b, off, rfl, hcells⟩ := (rd64_cells (HR.out.kept HB1.out)).2 (by omega)
          have hx := hcells k hlt
          rw [← HX.out] at hx
          obtain ⟨K, hK⟩ : ∃ K, K = N - 1 - r := ⟨_, rfl⟩
          have hKi : (N : Int) - 1 - (r : Int) = (K : Int) := by omega
          have hK64 : K < 64 := by omega
          have hx2 : x < 18446744073709551616 := by rw [HX.out]; exact lt64 us h64 k
          have HK := Lib.hid hK
          have HKI := Lib.hid hKi
          rw [hKi]
          obtain ⟨y, hy⟩ : ∃ y, y = (bitAt N us q1).toNat := ⟨_, rfl⟩
          have hbit := bit_of x K hx2
          have hbq : bitAt N us q1 = x.testBit K := by
            rw [HQ1.out, HQ.out, bitAt_of N us k r hr2, HX.out, HK.out]
          rw [← hbq, ← hy] at hbit
          have hsucc := bitsL_succ N us q1
          rw [← hy] at hsucc
          have HS := Lib.hid hsucc
          have H2 := Lib.hid (one_cell wr (u8v y) 5)
          have H3 := Lib.hid (ones_u8 [y])
          have hsz := Lib.hid (show w.heap.size ≤ (wr.alloc (.cells #[u8v y] 5)).heap.size by simp; have := HB1.out.size; omega)
          clear hcells hK hKi hy hbq hsucc
          go_wp2_with (at_builtin; go_must (refine wpList_append_own _ rfl _ _ 27 rfl w.heap.size 5 i0 (.int .u8 0) 1 1 Try.underlying27 hi hz0 hz1 hz2 rfl (by decide) _ _ _ rfl (HOA.out _) ⟨wr.heap.size, 0, none⟩ 1 1 [u8v y] rfl rfl H2.out H3.out (by unfold maxLen; omega) (by omega) hsz.out ?_); intro v' w3 hown' hgrow _)
          have HO' := Lib.hid hown'
          have HG' := Lib.hid hgrow
          clear hown' hgrow
          go_wp2_with fail
          go_roundw
          case rel =>
            refine ⟨r + 1, q1 + 1, by omega, by have := HQ1.out; omega, by have := HKI.out; go_num, ?_, below_own (HB1.out.alloc HB1.out.size _) (HOA.out _) HG'.out⟩
            rw [HS.out, List.map_append]
            exact HO'.out
          case measure => simp [intOf]
        · obtain rfl : r = N := by omega
          go_wp2_with fail
          go_roundw
          case rel => exact ⟨k + 1, q1, by omega, by rw [HQ1.out, HQ.out, Nat.mul_succ], by go_num, HO1.out, HB1.out⟩
          case measure => simp [intOf]; omega
    · obtain rfl : k = len := by omega
      have HR' := Lib.hid (Rd.of_owns HO.out)
      obtain ⟨M, hMe⟩ : ∃ M, M = (q + 7) / 8 := ⟨_, rfl⟩
      have hMi : ((q : Int) + 7) / 8 = (M : Int) := by omega
      have hMi2 : ((q : Int) + 7).tdiv 8 = (M : Int) := by rw [Int.tdiv_eq_ediv_of_nonneg (by omega)]; exact hMi
      have hMl : M ≤ 524280 := by omega
      have HMe := Lib.hid hMe
      clear hMe
      obtain ⟨W2, rfl⟩ : ∃ W2 : World, W2 = wr := ⟨_, rfl⟩
      go_wp2_with (at_make; go_must (refine wpList_make_full _ rfl _ _ 27 rfl W2.heap.size 5 i0 (.int .u8 0) 1 Try.underlying27 hi hz0 hz1 .i64 .i64 _ _ M rfl rfl rfl rfl (by rw [hz2]; omega) (by unfold maxLen; omega) (Nat.le_refl _) ?_); intro w1 hown1 hgrow1)
      have hO0 : w1.ownsRow W2.heap.size 5 1 (.slice (some ⟨W2.heap.size, 0, none⟩) M M) M ((List.replicate M 0).map u8v) := by rw [← made8]; exact hown1
      have hB1 : Below W2.heap.size W2 w1 := (Below.refl _ W2).grown hgrow1 (Nat.le_refl _) (fun k e => by cases e)
      have HO0 := Lib.hid hO0
      have HB1 := Lib.hid hB1
      have HZ := Lib.hid (show OutTo (List.replicate M 0) N us 0 by have := outTo_zero N us; rw [← HL.out, ← HQ.out, ← HMe.out] at this; exact this)
      clear hown1 hgrow1 hO0 hB1 hi hz0 hz1 hz2
      go_wp2_with fail
      go_loopw [9] (fun i wr => ∃ j : Nat, ∃ out : List Nat, j ≤ q ∧ i = .int .i64 (j : Int) ∧ OutTo out N us j ∧ wr.ownsRow W2.heap.size 5 1 (.slice (some ⟨W2.heap.size, 0, none⟩) M M) M (out.map u8v) ∧ Below W2.heap.size W2 wr) (fun i _ => q - (intOf i).toNat)
      case atStart => exact ⟨0, _, Nat.zero_le _, rfl, HZ.out, HO0.out, HB1.out⟩
      case round =>
        obtain ⟨j, out, hj, rfl, hout, hown, hbel⟩ := hrel
        have HO1 := Lib.hid hown
        have HB2 := Lib.hid hbel
        have HOU := Lib.hid hout
        have holen : out.length = M := by have := hown.1; simpa using this
        have HOL := Lib.hid holen
        clear hown hbel hout holen HO0 HB1 HZ
        by_cases hjq : j < q
        · obtain ⟨b, off, rfl, hcells⟩ := (rd_cells (HR'.out.kept HB2.out)).2 (by omega)
          have hx := hcells j hjq
          obtain ⟨y, hy⟩ : ∃ y, y = (bitAt N us j).toNat := ⟨_, rfl⟩
          have hyb : (bitsL N us q).getD j 0 = y := by rw [List.getD_eq_getElem?_getD, bitsL_get N us q j hjq, hy]; rfl
          rw [hyb] at hx
          have hy2 : y < 2 := by rw [hy]; cases bitAt N us j <;> decide
          have hjM : j / 8 < M := by have := HMe.out; omega
          have hfz := HO1.out.frozenAt (j / 8)
          obtain ⟨x, hxe⟩ : ∃ x, x = out.getD (j / 8) 0 := ⟨_, rfl⟩
          have hx' : wr.cell? ⟨W2.heap.size, j / 8, none⟩ = some (.int .u8 x) := by
            rw [HO1.out.cellAt (j / 8) (by omega), List.getElem?_map, hxe, List.getD_eq_getElem?_getD, List.getElem?_eq_getElem (by rw [HOL.out]; exact hjM)]; rfl
          have hx2 : x < 256 := by rw [hxe]; exact HOU.out.2.1 _
          have HX := Lib.hid hxe
          have HY := Lib.hid hy
          clear hcells hyb hxe hy
          go_wp2_with fail
          go_region
          go_wp2_with fail
          go_roundw
          case rel =>
            have hv := or_val x y (7 - j % 8) (by omega) hx2 hy2
            rw [hv]
            have hst := HO1.out.stored (j / 8) (u8v (x ||| y * 2 ^ (7 - j % 8)))
            have hstep := outTo_step HOU.out (show j < N * us.length by rw [← HL.out, ← HQ.out]; exact hjq)
            rw [← HX.out, ← HY.out] at hstep
            refine ⟨j + 1, _, by omega, by go_num, hstep, ?_, ?_⟩
            · rw [List.map_set]; exact hst.1
            · exact HB2.out.trans (((Below.refl _ _).setCell (p := ⟨W2.heap.size, j / 8, none⟩) (Nat.le_refl _) _).trans (below_drew _ _ _))
          case measure => simp [intOf]; omega
        · obtain rfl : j = q := by omega
          go_wp2_with fail
          go_ret
          have ho : out = packB N us := outTo_all (by rw [← HL.out, ← HQ.out]; exact HOU.out)
          rw [← ho]
          exact ret_own (own_lower HO1.out HB.out.size) (below_then HB.out HB2.out)

end Go.Proofs.Ytdelcaijehcaeaa
