/-
  Plain facts: the bits of numbers, one behind the other, as the document's answer lays them.
  Contracts of the reference's number and Width.
  Contract of the reference's At.
  Contract of the reference's Pack.
  Contract of the reference's Unpack.
  What the law of bytes in few bits asks of each row of bytes.
-/
import Derived.Test.YtjcmekhamohbnaaPlmath
import Derived.Test.YtjcmekhamohbnaaAppend
import Derived.Test.YtjcmekhamohbnaaAt
import Derived.Deep.DeepCutAuto
import Derived.Deep.RegionHeld3
import Derived.Test.YtjcmekhamohbnaaNulaw
import Derived.Deep.RegionLaw
namespace Go.Proofs.Ytjcmekhamohbnaa
set_option linter.unusedVariables false

def bitAt (n : Nat) (us : List Nat) (q : Nat) : Bool := (us.getD (q / n) 0).testBit (n - 1 - q % n)

def bitsL (n : Nat) (us : List Nat) (q : Nat) : List Nat := (List.range q).map fun p => (bitAt n us p).toNat

theorem bitsL_succ (n : Nat) (us : List Nat) (q : Nat) : bitsL n us (q + 1) = bitsL n us q ++ [(bitAt n us q).toNat] := by
  unfold bitsL; rw [List.range_succ, List.map_append]; rfl

theorem bitsL_get (n : Nat) (us : List Nat) (q p : Nat) (h : p < q) : (bitsL n us q)[p]? = some (bitAt n us p).toNat := by
  unfold bitsL; rw [List.getElem?_map, List.getElem?_range h]; rfl

theorem bitAt_of (n : Nat) (us : List Nat) (i r : Nat) (hr : r < n) : bitAt n us (n * i + r) = (us.getD i 0).testBit (n - 1 - r) := by
  unfold bitAt
  rw [Nat.mul_add_div (by omega), Nat.div_eq_of_lt hr, Nat.mul_add_mod, Nat.mod_eq_of_lt hr, Nat.add_zero]

def OutTo (out : List Nat) (n : Nat) (us : List Nat) (i : Nat) : Prop :=
  out.length = (n * us.length + 7) / 8 ∧ (∀ j, out.getD j 0 < 256) ∧ ∀ q, q < 8 * out.length → bitB out q = (decide (q < i) && bitAt n us q)

theorem outTo_zero (n : Nat) (us : List Nat) : OutTo (List.replicate ((n * us.length + 7) / 8) 0) n us 0 := by
  refine ⟨by simp, fun i => by rw [getD_replicate_zero]; decide, fun q _ => ?_⟩
  unfold bitB; rw [getD_replicate_zero]; simp

theorem or_bit (x b s : Nat) (hs : s < 8) (hb : b < 2) (k : Nat) : (x ||| b * 2 ^ s).testBit k = (x.testBit k || (decide (k = s) && decide (b = 1))) := by
  rw [Nat.testBit_or, ← Nat.shiftLeft_eq, Nat.testBit_shiftLeft]
  by_cases hk : k = s
  · subst hk
    have : b = 0 ∨ b = 1 := by omega
    rcases this with rfl | rfl <;> simp
  · by_cases hks : k ≥ s
    · have : b = 0 ∨ b = 1 := by omega
      rcases this with rfl | rfl
      · simp [hk]
      · have h1 : (1 : Nat).testBit (k - s) = false := by
          have e1 : k - s = (k - s - 1) + 1 := by omega
          rw [e1, Nat.testBit_succ]; simp
        simp [hk, h1]
    · simp [hk, hks]

theorem or_lt (x b s : Nat) (hs : s < 8) (hb : b < 2) (hx : x < 256) : x ||| b * 2 ^ s < 256 := by
  have e : (256 : Nat) = 2 ^ 8 := by decide
  rw [e] at hx ⊢
  refine Nat.or_lt_two_pow hx ?_
  have h1 : b * 2 ^ s ≤ 1 * 2 ^ s := Nat.mul_le_mul_right _ (by omega)
  have h2 : (2 : Nat) ^ s < 2 ^ 8 := Nat.pow_lt_pow_right (by decide) hs
  omega

theorem outTo_step {out : List Nat} {n : Nat} {us : List Nat} {i : Nat} (h : OutTo out n us i) (hi : i < n * us.length) :
    OutTo (out.set (i / 8) (out.getD (i / 8) 0 ||| (bitAt n us i).toNat * 2 ^ (7 - i % 8))) n us (i + 1) := by
  obtain ⟨hl, h256, hb⟩ := h
  have hj : i / 8 < out.length := by omega
  have hbt : (bitAt n us i).toNat < 2 := by cases bitAt n us i <;> decide
  refine ⟨by rw [List.length_set]; exact hl, fun j => ?_, fun q hq => ?_⟩
  · rw [getD_set]
    split
    · exact or_lt _ _ _ (by omega) hbt (h256 _)
    · exact h256 j
  · rw [List.length_set] at hq
    have h0 := hb q hq
    unfold bitB at h0 ⊢
    rw [getD_set]
    by_cases hqj : i / 8 = q / 8
    · rw [if_pos ⟨hqj, hj⟩, or_bit _ _ _ (by omega) hbt, hqj, h0]
      by_cases hqi : q = i
      · subst hqi
        cases bitAt n us q <;> simp
      · have h1 : ¬ 7 - q % 8 = 7 - i % 8 := by omega
        simp only [h1, decide_false, Bool.false_and, Bool.or_false]
        congr 1
        rw [decide_eq_decide]
        omega
    · rw [if_neg (by rintro ⟨h1, _⟩; exact hqj h1), h0]
      congr 1
      rw [decide_eq_decide]
      have : q ≠ i := by rintro rfl; exact hqj rfl
      omega

theorem outTo_all {out : List Nat} {n : Nat} {us : List Nat} (h : OutTo out n us (n * us.length)) : out = packB n us := by
  refine bytes_ext (by rw [h.1, packB_length]) h.2.1 (packB_lt _ _) fun q hq => ?_
  rw [h.2.2 q hq]
  unfold packB
  rw [bytesOf_bit _ _ q (by rw [h.1] at hq; exact hq)]
  rfl

end Go.Proofs.Ytjcmekhamohbnaa

namespace Go.Proofs.Ytjcmekhamohbnaa
set_option linter.unusedVariables false
open Go.RowKit

set_option maxRecDepth 100000 in
set_option maxHeartbeats 1000000 in
theorem refNumber_any (v : Value) (bs : List Nat) (p0 n0 : Nat) (w : World) (hr : Rd w v (bs.map u8v))
    (h256 : ∀ i, bs.getD i 0 < 256) (hfit : p0 + n0 ≤ 8 * bs.length) (hn : n0 ≤ 64) (hlen : bs.length ≤ 17592186044416) :
    Calls Try.prog 79 #[v, .int .i64 n0, .int .i64 p0] w fun e w' => e = .returned (.int .u64 (numB bs p0 n0 : Nat)) ∧ ∃ k, w' = w.drewN k := by
  have hr2 := hr
  obtain ⟨ao, cap, hv, hcap, _⟩ := hr2
  rw [List.length_map] at hv
  subst hv
  obtain ⟨len, hlene⟩ : ∃ len, len = bs.length := ⟨_, rfl⟩
  rw [← hlene] at hr hfit hlen ⊢
  have hc := (rd_cells hr).2
  clear hr hcap hlene
  go_enter Try.func79, Try.ntmps79
  go_wp2
  go_loopw [7, 8] (fun u i wr => ∃ m : Nat, m ≤ n0 ∧ u = .int .u64 (numB bs p0 m : Nat) ∧ i = .int .i64 (m : Int) ∧ ∃ k, wr = w.drewN k) (fun _ i _ => n0 - (intOf i).toNat)
  case atStart => exact ⟨0, Nat.zero_le _, by simp [numB], rfl, 0, rfl⟩
  case round =>
    obtain ⟨m, hm, rfl, rfl, k, rfl⟩ := hrel
    obtain ⟨U, hU⟩ : ∃ U, U = numB bs p0 m := ⟨_, rfl⟩
    have hUb : U < 2 ^ m := by rw [hU]; exact numB_lt _ _ _
    rw [← hU]
    have HU := Lib.hid hU
    clear hU
    by_cases hlt : m < n0
    · obtain ⟨b, off, rfl, hcell⟩ := hc (by omega)
      have hx := hcell ((p0 + m) / 8) (by omega)
      have hx2 := h256 ((p0 + m) / 8)
      obtain ⟨x, hxe⟩ : ∃ x, x = bs.getD ((p0 + m) / 8) 0 := ⟨_, rfl⟩
      rw [← hxe] at hx hx2
      have HX := Lib.hid hxe
      have hj : (p0 + m) / 8 < len := by omega
      have HUB := Lib.hid hUb
      clear hxe hc h256 hcell hUb
      go_wp2_with fail
      go_roundw
      case rel =>
        have hs := get_step U x (7 - (p0 + m) % 8) 1 m HUB.out (by omega) (by decide) hx2
        have hn1 := numB_step bs p0 m 1 (by omega)
        rw [← HU.out, ← HX.out, show 8 - (p0 + m) % 8 - 1 = 7 - (p0 + m) % 8 by omega] at hn1
        rw [← hn1, Int.pow_succ, Int.pow_zero, Int.one_mul, show (255 : Int) / 2 ^ (8 - 1) = 1 by decide] at hs
        exact ⟨m + 1, by omega, by rw [hs], by go_num, k, rfl⟩
      case measure => simp [intOf]; omega
    · go_wp2
      go_ret
      exact ⟨ret_int (by rw [HU.out, show m = n0 by omega]), k, rfl⟩

set_option maxHeartbeats 1000000 in
theorem refWidth_any (u : Nat) (w : World) (hu : u < 18446744073709551616) :
    Calls Try.prog 47 #[.int .u64 u] w fun e w' => e = .returned (.int .i64 (Lib.bitLen u : Nat)) ∧ w = w' := by
  obtain ⟨c1, c2, c3⟩ := bitLen_spec u hu
  obtain ⟨L, hL⟩ : ∃ L, L = Lib.bitLen u := ⟨_, rfl⟩
  rw [← hL] at c1 c2 c3 ⊢
  have HC2 := Lib.hid c2
  have HC3 := Lib.hid c3
  clear hL c2 c3
  go_enter Try.func47, Try.ntmps47
  go_wp2
  go_loopw [3] (fun i wr => ∃ m : Nat, m ≤ L ∧ i = .int .i64 (m : Int) ∧ w = wr) (fun i _ => L - (intOf i).toNat)
  case atStart => exact ⟨0, Nat.zero_le _, rfl, rfl⟩
  case round =>
    obtain ⟨m, hm, rfl, rfl⟩ := hrel
    by_cases hlt : m < L
    · have hne : ((u : Int) / 2 ^ m != 0) = true := by
        rw [div_cast, bne_iff_ne]
        have h1 := HC3.out (by omega)
        have h2 : 2 ^ m ≤ u := by
          have h3 : 2 ^ m ≤ 2 ^ (L - 1) := Nat.pow_le_pow_right (by decide) (by omega)
          have h4 := Nat.div_mul_le_self u (2 ^ (L - 1))
          rw [h1] at h4
          omega
        have h5 : 0 < u / 2 ^ m := Nat.div_pos h2 (Nat.two_pow_pos m)
        omega
      go_wp2
      go_roundw
      case rel => exact ⟨m + 1, by omega, by go_num, trivial⟩
      case measure => simp [intOf]; omega
    · obtain rfl : m = L := by omega
      by_cases h64 : m < 64
      · have hne : ((u : Int) / 2 ^ m != 0) = false := by
          rw [div_cast, Nat.div_eq_of_lt HC2.out]; rfl
        go_wp2
        go_ret
        exact ⟨rfl, rfl⟩
      · obtain rfl : m = 64 := by omega
        go_wp2
        go_ret
        exact ⟨rfl, rfl⟩

end Go.Proofs.Ytjcmekhamohbnaa

namespace Go.Proofs.Ytjcmekhamohbnaa
set_option linter.unusedVariables false
open Go.RowKit

theorem heldN_mm {n : Int} {N : Nat} (h : N = heldN n) : min (max n 0) 64 = (N : Int) := by unfold heldN at h; omega

end Go.Proofs.Ytjcmekhamohbnaa

namespace Go.Proofs.Ytjcmekhamohbnaa
set_option linter.unusedVariables false
open Go.RowKit

theorem or_val (x y s : Nat) (hs : s < 8) (hx : x < 256) (hy : y < 2) : bits .or .u8 (x : Int) ((y : Int) * 2 ^ s % 256) = ((x ||| y * 2 ^ s : Nat) : Int) := by
  have h1 : y * 2 ^ s < 256 := by
    have h2 : (2 : Nat) ^ s ≤ 2 ^ 7 := Nat.pow_le_pow_right (by decide) (by omega)
    have h3 : y * 2 ^ s ≤ 1 * 2 ^ s := Nat.mul_le_mul_right _ (by omega)
    omega
  have e : (y : Int) * 2 ^ s % 256 = ((y * 2 ^ s : Nat) : Int) := by
    have : (y : Int) * 2 ^ s = ((y * 2 ^ s : Nat) : Int) := by simp
    rw [this]; omega
  rw [e, u8_or_nat _ _ hx h1, Nat.or_comm]

theorem own_lower {w : World} {B B' : Nat} {E : TypeId} {v : Value} {n : Nat} {xs : List Value} (h : w.ownsRow B E 1 v n xs) (hb : B' ≤ B) : w.ownsRow B' E 1 v n xs := by
  refine ⟨h.1, ?_⟩
  rcases h.2 with h | ⟨g, cap, cur, h1, h2, h3⟩
  · exact .inl h
  · exact .inr ⟨g, cap, cur, h1, Nat.le_trans hb h2, h3⟩

theorem bit_of (x K : Nat) (hx : x < 18446744073709551616) : bits .and .u64 ((x : Int) / 2 ^ K) 1 % 256 = ((x.testBit K).toNat : Int) := by
  rw [div_cast, u64_and_one _ (Nat.lt_of_le_of_lt (Nat.div_le_self _ _) hx), Nat.testBit_eq_decide_div_mod_eq]
  have h : x / 2 ^ K % 2 = 0 ∨ x / 2 ^ K % 2 = 1 := by omega
  rcases h with h | h <;> rw [h] <;> rfl

set_option maxRecDepth 100000 in
set_option maxHeartbeats 2000000 in
theorem refPack_any (v : Value) (us : List Nat) (n : Int) (w : World) (hr : Rd w v (us.map u64v))
    (h64 : ∀ x ∈ us, x < 18446744073709551616) (hlen : us.length ≤ 65535) :
    Calls Try.prog 49 #[.int .i64 n, v] w (RetOwn w.heap.size 5 ((packB (heldN n) us).map u8v) w) := by
  have hr2 := hr
  obtain ⟨ao, cap, hv, hcap, hcell⟩ := hr2
  rw [List.length_map] at hv
  subst hv
  obtain ⟨len, hlene⟩ : ∃ len, len = us.length := ⟨_, rfl⟩
  have HL := Lib.hid hlene
  rw [← hlene] at hr hlen ⊢
  have HR := Lib.hid hr
  clear hr hcap hcell hlene
  have hN := heldN_le n
  obtain ⟨N, hNe⟩ : ∃ N, N = heldN n := ⟨_, rfl⟩
  rw [← hNe] at hN ⊢
  have HN := Lib.hid hNe
  have HM := Lib.hid (heldN_mm hNe)
  clear hNe
  go_enter Try.func49, Try.ntmps49
  go_upto_region 2 with (fail)
  rw [HM.out]
  go_wp2_with fail
  obtain ⟨i0, hi, hz0, hz1, hz2⟩ := info_parts info8
  go_loopw [5, 6] (fun vb i wr => ∃ k q : Nat, k ≤ len ∧ q = N * k ∧ i = .int .i64 (k : Int) ∧ wr.ownsRow w.heap.size 5 1 vb q ((bitsL N us q).map u8v) ∧ Below w.heap.size w wr) (fun _ i _ => len - (intOf i).toNat)
  case atStart => exact ⟨0, 0, Nat.zero_le _, rfl, rfl, owns_nil _ _ _, Below.refl _ _⟩
  case round =>
    obtain ⟨k, q, hk, hq, rfl, hown, hbel⟩ := hrel
    obtain ⟨aob, capb, hv⟩ := own_shape hown
    subst hv
    have HO := Lib.hid hown
    have HB := Lib.hid hbel
    have HQ := Lib.hid hq
    have hqm : q ≤ 64 * 65535 := by rw [hq]; exact Nat.mul_le_mul hN (by omega)
    clear hown hbel hq
    by_cases hlt : k < len
    · obtain ⟨wo, rfl⟩ : ∃ wo : World, wo = wr := ⟨_, rfl⟩
      obtain ⟨x, hxe⟩ : ∃ x, x = us.getD k 0 := ⟨_, rfl⟩
      have HX := Lib.hid hxe
      clear hxe
      go_wp2_with fail
      go_loopw [5, 7] (fun vb kk wr => ∃ r q1 : Nat, r ≤ N ∧ q1 = q + r ∧ kk = .int .i64 ((N : Int) - 1 - (r : Int)) ∧ wr.ownsRow w.heap.size 5 1 vb q1 ((bitsL N us q1).map u8v) ∧ Below w.heap.size w wr) (fun _ kk _ => (intOf kk + 1).toNat)
      case atStart => exact ⟨0, q, Nat.zero_le _, rfl, by go_num, HO.out, HB.out⟩
      case round =>
        obtain ⟨r, q1, hr, hq1, rfl, hown, hbel⟩ := hrel
        obtain ⟨aoc, capc, hv⟩ := own_shape hown
        subst hv
        have HO1 := Lib.hid hown
        have HB1 := Lib.hid hbel
        have HQ1 := Lib.hid hq1
        have hq1m : q1 ≤ 64 * 65535 := by
          have h1 := HQ.out
          have h2 : N * (k + 1) ≤ 64 * 65535 := Nat.mul_le_mul hN (by omega)
          rw [Nat.mul_succ] at h2
          omega
        have HOA := Lib.hid (fun o => hown.alloc o)
        clear hown hbel hq1 HO HB
        by_cases hr2 : r < N
        · obtain ⟨b, off, rfl, hcells⟩ := (rd64_cells (HR.out.kept HB1.out)).2 (by omega)
          have hx := hcells k hlt
          rw [← HX.out] at hx
          obtain ⟨K, hK⟩ : ∃ K, K = N - 1 - r := ⟨_, rfl⟩
          have hKi : (N : Int) - 1 - (r : Int) = (K : Int) := by omega
          have hK64 : K < 64 := by omega
          have hx2 : x < 18446744073709551616 := by rw [HX.out]; exact lt64 us h64 k
          have HK := Lib.hid hK
          have HKI := Lib.hid hKi
          rw [hKi]
          obtain ⟨y, hy⟩ : ∃ y, y = (bitAt N us q1).toNat := ⟨_, rfl⟩
          have hbit := bit_of x K hx2
          have hbq : bitAt N us q1 = x.testBit K := by
            rw [HQ1.out, HQ.out, bitAt_of N us k r hr2, HX.out, HK.out]
          rw [← hbq, ← hy] at hbit
          have hsucc := bitsL_succ N us q1
          rw [← hy] at hsucc
          have HS := Lib.hid hsucc
          have H2 := Lib.hid (one_cell wr (u8v y) 5)
          have H3 := Lib.hid (ones_u8 [y])
          have hsz := Lib.hid (show w.heap.size ≤ (wr.alloc (.cells #[u8v y] 5)).heap.size by simp; have := HB1.out.size; omega)
          clear hcells hK hKi hy hbq hsucc
          go_wp2_with (at_builtin; go_must (refine wpList_append_own _ rfl _ _ 24 rfl w.heap.size 5 i0 (.int .u8 0) 1 1 Try.underlying24 hi hz0 hz1 hz2 rfl (by decide) _ _ _ rfl (HOA.out _) ⟨wr.heap.size, 0, none⟩ 1 1 [u8v y] rfl rfl H2.out H3.out (by unfold maxLen; omega) (by omega) hsz.out ?_); intro v' w3 hown' hgrow _)
          have HO' := Lib.hid hown'
          have HG' := Lib.hid hgrow
          clear hown' hgrow
          go_wp2_with fail
          go_roundw
          case rel =>
            refine ⟨r + 1, q1 + 1, by omega, by have := HQ1.out; omega, by have := HKI.out; go_num, ?_, below_own (HB1.out.alloc HB1.out.size _) (HOA.out _) HG'.out⟩
            rw [HS.out, List.map_append]
            exact HO'.out
          case measure => simp [intOf]
        · obtain rfl : r = N := by omega
          go_wp2_with fail
          go_roundw
          case rel => exact ⟨k + 1, q1, by omega, by rw [HQ1.out, HQ.out, Nat.mul_succ], by go_num, HO1.out, HB1.out⟩
          case measure => simp [intOf]; omega
    · obtain rfl : k = len := by omega
      have HR' := Lib.hid (Rd.of_owns HO.out)
      obtain ⟨M, hMe⟩ : ∃ M, M = (q + 7) / 8 := ⟨_, rfl⟩
      have hMi : ((q : Int) + 7) / 8 = (M : Int) := by omega
      have hMi2 : ((q : Int) + 7).tdiv 8 = (M : Int) := by rw [Int.tdiv_eq_ediv_of_nonneg (by omega)]; exact hMi
      have hMl : M ≤ 524280 := by omega
      have HMe := Lib.hid hMe
      clear hMe
      obtain ⟨W2, rfl⟩ : ∃ W2 : World, W2 = wr := ⟨_, rfl⟩
      go_wp2_with (at_make; go_must (refine wpList_make_full _ rfl _ _ 24 rfl W2.heap.size 5 i0 (.int .u8 0) 1 Try.underlying24 hi hz0 hz1 .i64 .i64 _ _ M rfl rfl rfl rfl (by rw [hz2]; omega) (by unfold maxLen; omega) (Nat.le_refl _) ?_); intro w1 hown1 hgrow1)
      have hO0 : w1.ownsRow W2.heap.size 5 1 (.slice (some ⟨W2.heap.size, 0, none⟩) M M) M ((List.replicate M 0).map u8v) := by rw [← made8]; exact hown1
      have hB1 : Below W2.heap.size W2 w1 := (Below.refl _ W2).grown hgrow1 (Nat.le_refl _) (fun k e => by cases e)
      have HO0 := Lib.hid hO0
      have HB1 := Lib.hid hB1
      have HZ := Lib.hid (show OutTo (List.replicate M 0) N us 0 by have := outTo_zero N us; rw [← HL.out, ← HQ.out, ← HMe.out] at this; exact this)
      clear hown1 hgrow1 hO0 hB1 hi hz0 hz1 hz2
      go_wp2_with fail
      go_loopw [9] (fun i wr => ∃ j : Nat, ∃ out : List Nat, j ≤ q ∧ i = .int .i64 (j : Int) ∧ OutTo out N us j ∧ wr.ownsRow W2.heap.size 5 1 (.slice (some ⟨W2.heap.size, 0, none⟩) M M) M (out.map u8v) ∧ Below W2.heap.size W2 wr) (fun i _ => q - (intOf i).toNat)
      case atStart => exact ⟨0, _, Nat.zero_le _, rfl, HZ.out, HO0.out, HB1.out⟩
      case round =>
        obtain ⟨j, out, hj, rfl, hout, hown, hbel⟩ := hrel
        have HO1 := Lib.hid hown
        have HB2 := Lib.hid hbel
        have HOU := Lib.hid hout
        have holen : out.length = M := by have := hown.1; simpa using this
        have HOL := Lib.hid holen
        clear hown hbel hout holen HO0 HB1 HZ
        by_cases hjq : j < q
        · obtain ⟨b, off, rfl, hcells⟩ := (rd_cells (HR'.out.kept HB2.out)).2 (by omega)
          have hx := hcells j hjq
          obtain ⟨y, hy⟩ : ∃ y, y = (bitAt N us j).toNat := ⟨_, rfl⟩
          have hyb : (bitsL N us q).getD j 0 = y := by rw [List.getD_eq_getElem?_getD, bitsL_get N us q j hjq, hy]; rfl
          rw [hyb] at hx
          have hy2 : y < 2 := by rw [hy]; cases bitAt N us j <;> decide
          have hjM : j / 8 < M := by have := HMe.out; omega
          have hfz := HO1.out.frozenAt (j / 8)
          obtain ⟨x, hxe⟩ : ∃ x, x = out.getD (j / 8) 0 := ⟨_, rfl⟩
          have hx' : wr.cell? ⟨W2.heap.size, j / 8, none⟩ = some (.int .u8 x) := by
            rw [HO1.out.cellAt (j / 8) (by omega), List.getElem?_map, hxe, List.getD_eq_getElem?_getD, List.getElem?_eq_getElem (by rw [HOL.out]; exact hjM)]; rfl
          have hx2 : x < 256 := by rw [hxe]; exact HOU.out.2.1 _
          have HX := Lib.hid hxe
          have HY := Lib.hid hy
          clear hcells hyb hxe hy
          go_wp2_with fail
          go_region
          go_wp2_with fail
          go_roundw
          case rel =>
            have hv := or_val x y (7 - j % 8) (by omega) hx2 hy2
            rw [hv]
            have hst := HO1.out.stored (j / 8) (u8v (x ||| y * 2 ^ (7 - j % 8)))
            have hstep := outTo_step HOU.out (show j < N * us.length by rw [← HL.out, ← HQ.out]; exact hjq)
            rw [← HX.out, ← HY.out] at hstep
            refine ⟨j + 1, _, by omega, by go_num, hstep, ?_, ?_⟩
            · rw [List.map_set]; exact hst.1
            · exact HB2.out.trans (((Below.refl _ _).setCell (p := ⟨W2.heap.size, j / 8, none⟩) (Nat.le_refl _) _).trans (below_drew _ _ _))
          case measure => simp [intOf]; omega
        · obtain rfl : j = q := by omega
          go_wp2_with fail
          go_ret
          have ho : out = packB N us := outTo_all (by rw [← HL.out, ← HQ.out]; exact HOU.out)
          rw [← ho]
          exact ret_own (own_lower HO1.out HB.out.size) (below_then HB.out HB2.out)

end Go.Proofs.Ytjcmekhamohbnaa

namespace Go.Proofs.Ytjcmekhamohbnaa
set_option linter.unusedVariables false
open Go.RowKit

theorem strOf_beq {a b : List Nat} (ha : ∀ i, a.getD i 0 < 256) (hb : ∀ i, b.getD i 0 < 256) : ((strOf a).toList == (strOf b).toList) = (a == b) := by
  rw [strOf_toList, strOf_toList, Bool.eq_iff_iff, beq_iff_eq, beq_iff_eq]
  constructor
  · intro h
    have hl : a.length = b.length := by have := congrArg List.length h; simpa using this
    apply List.ext_getElem hl
    intro i h1 h2
    have h3 : (a.map UInt8.ofNat)[i]'(by simpa using h1) = (b.map UInt8.ofNat)[i]'(by simpa using h2) := by simp only [h]
    rw [List.getElem_map, List.getElem_map] at h3
    have h4 := congrArg UInt8.toNat h3
    have h5 := ha i
    have h6 := hb i
    rw [List.getD_eq_getElem?_getD, List.getElem?_eq_getElem h1] at h5
    rw [List.getD_eq_getElem?_getD, List.getElem?_eq_getElem h2] at h6
    simp only [Option.getD_some] at h5 h6
    rwa [UInt8.toNat_ofNat', UInt8.toNat_ofNat', Nat.mod_eq_of_lt h5, Nat.mod_eq_of_lt h6] at h4
  · rintro rfl; rfl

theorem below_drw' (B : Nat) (w : World) : Below B w w.drew := ⟨rfl, rfl, rfl, Nat.le_refl _, fun _ _ => rfl⟩

def numsB (bs : List Nat) (N C : Nat) : List Nat := (List.range C).map fun i => numB bs (i * N) N

theorem numsB_length (bs : List Nat) (N C : Nat) : (numsB bs N C).length = C := by simp [numsB]

theorem numsB_succ (bs : List Nat) (N C : Nat) : numsB bs N (C + 1) = numsB bs N C ++ [numB bs (C * N) N] := by
  unfold numsB; rw [List.range_succ, List.map_append]; rfl

theorem numsB_get (bs : List Nat) (N C i : Nat) (h : i < C) : (numsB bs N C).getD i 0 = numB bs (i * N) N := by
  unfold numsB; rw [List.getD_eq_getElem?_getD, List.getElem?_map, List.getElem?_range h]; rfl

theorem numsB_lt (bs : List Nat) (N C : Nat) (hN : N ≤ 64) : ∀ x ∈ numsB bs N C, x < 18446744073709551616 := by
  intro x hx
  obtain ⟨i, _, rfl⟩ := List.mem_map.1 hx
  have h1 := numB_lt bs (i * N) N
  have h2 : 2 ^ N ≤ 2 ^ 64 := Nat.pow_le_pow_right (by decide) hN
  have h3 : (2 : Nat) ^ 64 = 18446744073709551616 := by decide
  omega

theorem pack_nums {bs : List Nat} {N C : Nat} (h256 : ∀ i, bs.getD i 0 < 256) (hl : bs.length = (N * C + 7) / 8) : (packB N (numsB bs N C) == bs) = spareB bs (N * C) := by
  rw [Bool.eq_iff_iff, beq_iff_eq]
  constructor
  · intro h
    have := spare_pack N (numsB bs N C)
    rwa [h, numsB_length] at this
  · intro h
    unfold spareB at h
    rw [beq_iff_eq] at h
    refine bytes_ext (by rw [packB_length, numsB_length, hl]) (packB_lt _ _) h256 fun q hq => ?_
    rw [packB_length, numsB_length] at hq
    unfold packB
    rw [numsB_length, bytesOf_bit _ _ q hq]
    by_cases hqc : q < N * C
    · have hN : 0 < N := by
        rcases Nat.eq_zero_or_pos N with h0 | h0
        · subst h0; omega
        · exact h0
      have hd : q / N < C := by rw [Nat.div_lt_iff_lt_mul hN, Nat.mul_comm]; exact hqc
      rw [numsB_get _ _ _ _ hd, numB_bits]
      have hm := Nat.mod_lt q hN
      have e1 : N - 1 - (N - 1 - q % N) = q % N := by omega
      have e2 : q / N * N + q % N = q := by rw [Nat.mul_comm]; exact Nat.div_add_mod q N
      have e3 : N - 1 - q % N < N := by omega
      rw [e1, e2]
      simp [hqc, e3]
    · have hlast : q / 8 = bs.length - 1 := by omega
      simp only [hqc, decide_false, Bool.false_and]
      unfold bitB
      rw [hlast]
      have h7 : 7 - q % 8 < 8 * bs.length - N * C := by omega
      have := congrArg (fun z => z.testBit (7 - q % 8)) h
      simp only [Nat.testBit_mod_two_pow, Nat.zero_testBit] at this
      simpa [h7] using this.symm

set_option maxRecDepth 100000 in
set_option maxHeartbeats 2000000 in
theorem refUnpack_any (v : Value) (bs : List Nat) (n c : Int) (w : World) (hr : Rd w v (bs.map u8v))
    (h256 : ∀ x ∈ bs, x < 256) (hlen : bs.length ≤ 17592186044416) :
    Calls Try.prog 61 #[v, .int .i64 n, .int .i64 c] w fun e w' => ∃ z, e = .returned (.tuple #[z, .bool (unpackB bs n c).isSome]) ∧ Rd w' z (((unpackB bs n c).getD []).map u64v) ∧ Below w.heap.size w w' := by
  have hr2 := hr
  obtain ⟨ao, cap, hv, hcap, hcell⟩ := hr2
  rw [List.length_map] at hv
  subst hv
  obtain ⟨len, hlene⟩ : ∃ len, len = bs.length := ⟨_, rfl⟩
  have HL := Lib.hid hlene
  rw [← hlene] at hr hlen ⊢
  have HR := Lib.hid hr
  have H256 := Lib.hid (lt256 bs h256)
  clear hr hcap hcell hlene h256
  have hN := heldN_le n
  obtain ⟨N, hNe⟩ : ∃ N, N = heldN n := ⟨_, rfl⟩
  rw [← hNe] at hN
  have HN := Lib.hid hNe
  have HM := Lib.hid (heldN_mm hNe)
  clear hNe
  by_cases hc0 : 0 ≤ c
  · obtain ⟨C, rfl⟩ := Int.eq_ofNat_of_zero_le hc0
    by_cases hc1 : C ≤ 65535
    · have hNC : N * C ≤ 64 * 65535 := Nat.mul_le_mul hN hc1
      have hm0 : (0 : Int) ≤ (N : Int) * (C : Int) := by have : ((N : Int) * (C : Int)) = ((N * C : Nat) : Int) := by simp
                                                         omega
      have hm1 : (N : Int) * (C : Int) ≤ 4194240 := by have : ((N : Int) * (C : Int)) = ((N * C : Nat) : Int) := by simp
                                                       omega
      have hle : ((N : Int) * (C : Int) + 7) / 8 = ((((N * C + 7) / 8 : Nat)) : Int) := by simp
      have HLE := Lib.hid hle
      clear hle
      by_cases hl : len = (N * C + 7) / 8
      · have hb : ((len : Int) != ((N : Int) * (C : Int) + 7) / 8) = false := by rw [HLE.out, hl]; simp
        have HLN := Lib.hid hl
        clear hl
        go_enter Try.func61, Try.ntmps61
        go_upto_region 2 with (fail)
        rw [HM.out]
        obtain ⟨i0, hi, hz0, hz1, hz2⟩ := info_parts info64
        go_wp2_with fail
        go_loopw [8, 9] (fun vb i wr => ∃ k : Nat, k ≤ C ∧ i = .int .i64 (k : Int) ∧ wr.ownsRow w.heap.size 57 1 vb k ((numsB bs N k).map u64v) ∧ Below w.heap.size w wr) (fun _ i _ => C - (intOf i).toNat)
        case atStart => exact ⟨0, Nat.zero_le _, rfl, owns_nil _ _ _, Below.refl _ _⟩
        case round =>
          obtain ⟨k, hk, rfl, hown, hbel⟩ := hrel
          obtain ⟨aob, capb, hv⟩ := own_shape hown
          subst hv
          have HO := Lib.hid hown
          have HB := Lib.hid hbel
          clear hown hbel
          by_cases hlt : k < C
          · have hkN : k * N + N ≤ N * C := by
              have h1 : (k + 1) * N ≤ C * N := Nat.mul_le_mul_right _ hlt
              rw [Nat.succ_mul, Nat.mul_comm C N] at h1
              exact h1
            have HKM := Lib.hid (show (k : Int) * (N : Int) = ((k * N : Nat) : Int) by simp)
            have hk0 : (0 : Int) ≤ (k : Int) * (N : Int) := by rw [HKM.out]; omega
            have hk1 : (k : Int) * (N : Int) ≤ 4194240 := by rw [HKM.out]; omega
            have hfit : k * N + N ≤ 8 * bs.length := by rw [← HL.out, HLN.out]; omega
            obtain ⟨u, hu⟩ : ∃ u, u = numB bs (k * N) N := ⟨_, rfl⟩
            have HU := Lib.hid hu
            have HRW := Lib.hid (HR.out.kept HB.out)
            clear hu
            go_wp2_with (first
              | (go_at_call 79; rw [HKM.out]; go_must (refine (refNumber_any _ bs (k * N) N _ HRW.out H256.out hfit hN (by rw [← HL.out]; exact hlen)).mono ?_); rw [← HU.out]; rintro e w2 ⟨rfl, kd, rfl⟩)
              | (at_builtin; go_must (refine wpList_append_own _ rfl _ _ 62 rfl w.heap.size 57 i0 (.int .u64 0) 1 8 Try.underlying62 hi hz0 hz1 hz2 rfl (by decide) _ _ _ rfl ((ownsRow_drewN HO.out kd).alloc _) ⟨(wr.drewN kd).heap.size, 0, none⟩ 1 1 [u64v u] rfl rfl (one_cell (wr.drewN kd) (u64v u) 57) (by intro z hz; simp at hz; subst hz; rfl) (by unfold maxLen; omega) (by omega) (below_lay (below_draws HB.out kd) _).size ?_); intro v' w3 hown' hgrow _))
            have HO' := Lib.hid hown'
            have HB' := Lib.hid (below_own (below_lay (below_draws HB.out kd) _) ((ownsRow_drewN HO.out kd).alloc _) hgrow)
            clear hown' hgrow
            go_roundw
            case rel =>
              refine ⟨k + 1, by omega, by go_num, ?_, HB'.out⟩
              rw [numsB_succ, ← HU.out, List.map_append]
              exact HO'.out
            case measure => simp [intOf]; omega
          · obtain rfl : k = C := by omega
            have HRN := Lib.hid (Rd.of_owns HO.out)
            have HRB := Lib.hid (HR.out.kept HB.out)
            have HPS := Lib.hid (pack_nums (N := N) (C := k) H256.out (HL.out.symm.trans HLN.out))
            obtain ⟨pb, hpb⟩ : ∃ pb, packB (heldN (N : Int)) (numsB bs N k) = pb := ⟨_, rfl⟩
            have HPB := Lib.hid hpb
            have HPM := Lib.hid (show ∀ x ∈ pb, x < 256 by rw [← hpb]; exact packB_mem _ _)
            rw [heldN_id N hN] at hpb
            rw [hpb] at HPS
            have HNL := Lib.hid (numsB_lt bs N k hN)
            have HC1 := Lib.hid (show (numsB bs N k).length ≤ 65535 by rw [numsB_length]; exact hc1)
            clear hpb hi hz0 hz1 hz2
            obtain ⟨W0, hW0⟩ : ∃ W0 : World, W0 = wr := ⟨_, rfl⟩
            rw [← hW0] at HRN HRB HB ⊢
            clear hW0
            go_upto_region 9 with (fail)
            have hS1 := run_str (P := Try.prog) W0 24 9 5 Try.underlying24 Try.underlying5 Try.underlying9 HRB.out H256.out
            have hS2 := run_str (P := Try.prog) W0.drew 24 9 5 Try.underlying24 Try.underlying5 Try.underlying9 (HRB.out.kept (below_drw' _ _)) H256.out
            go_region_with (first
              | (go_at_call 49; go_must (refine (refPack_any _ (numsB bs N k) (N : Int) _ (HRN.out.kept (below_drw' _ _)) HNL.out HC1.out).mono ?_); rw [HPB.out]; rintro e w2 ⟨ao2, cap2, rfl, hown2, hb2⟩; have hT1 : Below W0.heap.size W0 w2 := below_then (below_drw' _ _) hb2; have hT2 := run_str (P := Try.prog) w2 24 9 5 Try.underlying24 Try.underlying5 Try.underlying9 (HRB.out.kept hT1) H256.out; have hT3 := run_str (P := Try.prog) w2 24 9 5 Try.underlying24 Try.underlying5 Try.underlying9 (rd_own_map hown2) (lt256 _ HPM.out); simp only [List.length_map]))
            all_goals
              have HB2 := Lib.hid (below_then HB.out hT1)
              have HRO := Lib.hid (HRN.out.kept hT1)
              clear hS1 hS2 hown2 hb2 hT1
              rcases hsp : spareB bs (N * k) with _ | _
              · have hcm : ((strOf pb).toList == (strOf bs).toList) = false := by rw [strOf_beq (lt256 _ HPM.out) H256.out, HPS.out, hsp]
                have hcm2 : ¬ (strOf pb).toList = (strOf bs).toList := by intro h; rw [h] at hcm; simp at hcm
                have HA := Lib.hid (show unpackB bs n (k : Int) = none by unfold unpackB; rw [← HN.out, Int.toNat_natCast, if_neg (by rintro ⟨_, _, _, h⟩; rw [hsp] at h; cases h)])
                clear hsp
                go_wp2_with fail
                all_goals first
                  | (exfalso; rename_i hx; rw [hcm] at hx; simp at hx; done)
                  | (go_ret2
                     exact ⟨_, by rw [HA.out]; rfl, by rw [HA.out]; exact Rd.nil _, HB2.out⟩)
              · have hcm : (strOf pb).toList = (strOf bs).toList := by
                  have h1 : ((strOf pb).toList == (strOf bs).toList) = true := by rw [strOf_beq (lt256 _ HPM.out) H256.out, HPS.out, hsp]
                  exact beq_iff_eq.1 h1
                have HA := Lib.hid (show unpackB bs n (k : Int) = some (numsB bs N k) by unfold unpackB; rw [← HN.out, Int.toNat_natCast, ← HL.out, if_pos ⟨by omega, by omega, HLN.out, hsp⟩]; rfl)
                clear hsp
                go_wp2_with fail
                all_goals first
                  | (exfalso; rename_i hx; rw [hcm] at hx; simp at hx; done)
                  | (go_ret2
                     exact ⟨_, by rw [HA.out]; rfl, by rw [HA.out]; exact HRO.out, HB2.out⟩)
      · have hb : ((len : Int) != ((N : Int) * (C : Int) + 7) / 8) = true := by rw [HLE.out, bne_iff_ne]; omega
        have HA := Lib.hid (show unpackB bs n (C : Int) = none by unfold unpackB; rw [← HN.out, Int.toNat_natCast, ← HL.out, if_neg (by rintro ⟨_, _, h, _⟩; exact hl h)])
        clear hl
        go_enter Try.func61, Try.ntmps61
        go_upto_region 2 with (fail)
        rw [HM.out]
        go_wp2_with fail
        go_ret2
        exact ⟨_, by rw [HA.out]; rfl, by rw [HA.out]; exact Rd.nil _, Below.refl _ _⟩
    · have h2' : decide ((65535 : Int) < (C : Int)) = true := by simp; omega
      have HA := Lib.hid (show unpackB bs n (C : Int) = none by unfold unpackB; rw [if_neg (by rintro ⟨_, h, _⟩; omega)])
      clear hc1
      go_enter Try.func61, Try.ntmps61
      go_upto_region 2 with (fail)
      rw [HM.out]
      go_wp2_with fail
      go_ret2
      exact ⟨_, by rw [HA.out]; rfl, by rw [HA.out]; exact Rd.nil _, Below.refl _ _⟩
  · have HA := Lib.hid (show unpackB bs n c = none by unfold unpackB; rw [if_neg (by rintro ⟨h, _⟩; omega)])
    go_enter Try.func61, Try.ntmps61
    go_upto_region 2 with (fail)
    rw [HM.out]
    go_wp2_with fail
    go_ret2
    exact ⟨_, by rw [HA.out]; rfl, by rw [HA.out]; exact Rd.nil _, Below.refl _ _⟩

end Go.Proofs.Ytjcmekhamohbnaa

namespace Go.Proofs.Ytjcmekhamohbnaa
set_option linter.unusedVariables false
open Go.RowKit

def BytesAt (w : World) (v : Value) : Prop := ∃ bs : List Nat, Rd w v (bs.map u8v) ∧ (∀ x ∈ bs, x < 256) ∧ bs.length ≤ 17592186044416

theorem BytesAt.kept {w w' : World} {v : Value} (h : BytesAt w v) (hb : Below w.heap.size w w') : BytesAt w' v := by
  obtain ⟨bs, h1, h2⟩ := h
  exact ⟨bs, h1.kept hb, h2⟩

theorem and16t (a : Int) : 0 ≤ bits .and .i64 a 65535 ∧ bits .and .i64 a 65535 ≤ 65535 := by
  have h : bits .and .i64 a 65535 = IntKind.i64.wrap ((BitVec.ofInt 64 a &&& BitVec.ofInt 64 65535).toNat : Int) := rfl
  have h1 : (BitVec.ofInt 64 a &&& BitVec.ofInt 64 65535).toNat ≤ 65535 := by
    rw [BitVec.toNat_and]
    exact Nat.le_trans Nat.and_le_right (by decide)
  rw [h, IntWalk.i64_in _ (by omega)]
  omega

theorem place_some (a : Int) (N : Nat) (h : 0 < N) : ∃ c d : Nat, bits .and .i64 a 65535 = (c : Int) ∧ (c : Int).tmod (N : Int) = (d : Int) ∧ d < N ∧ c ≤ 65535 := by
  obtain ⟨i1, i2⟩ := and16t a
  have hd : (bits .and .i64 a 65535).toNat % N < N := Nat.mod_lt _ h
  refine ⟨(bits .and .i64 a 65535).toNat, (bits .and .i64 a 65535).toNat % N, by omega, ?_, hd, by omega⟩
  rw [Int.tmod_eq_emod_of_nonneg (by omega)]
  omega

theorem own_base2 {w : World} {B : Nat} {E : TypeId} {size n : Nat} {v : Value} {xs : List Value} (h : w.ownsRow B E size v n xs) : ∀ k, v.ownBlock = some k → B ≤ k := by
  intro k hk
  rcases h.2 with ⟨h, _⟩ | ⟨g', cap', cur, h, hbg, _⟩
  · rw [h] at hk; cases hk
  · rw [h] at hk; cases hk; exact hbg

def RowsAt (w : World) (g n : Nat) : Prop := ∀ j, j < n → ∃ v, w.cell? ⟨g, j, none⟩ = some v ∧ BytesAt w v

theorem RowsAt.kept {w w' : World} {g n : Nat} (h : RowsAt w g n) (hb : Below w.heap.size w w') : RowsAt w' g n := by
  intro j hj
  obtain ⟨v, hc, hv⟩ := h j hj
  exact ⟨v, (hb.cell (p := ⟨g, j, none⟩) (World.block_lt_of_cell? _ _ hc)).trans hc, hv.kept hb⟩

theorem three_ints (w : World) (x y z : Int) (E : TypeId) : ∀ j, j < 3 → ∃ c : Int, (w.alloc (.cells #[.int .i64 x, .int .i64 y, .int .i64 z] E)).cell? ⟨w.heap.size, j, none⟩ = some (.int .i64 c) := by
  intro j hj
  have h := rd_lit w #[.int .i64 x, .int .i64 y, .int .i64 z] E 3 [.int .i64 x, .int .i64 y, .int .i64 z] rfl rfl (by decide)
  obtain ⟨ao, cap, hv, _, hc⟩ := h
  obtain ⟨b, off, ha, hcell⟩ := hc (by simp)
  simp only [Value.slice.injEq] at hv
  obtain ⟨rfl, _⟩ := hv
  cases ha
  have := hcell j (by simpa using hj)
  rw [Nat.zero_add] at this
  have h3 : j = 0 ∨ j = 1 ∨ j = 2 := by omega
  rcases h3 with rfl | rfl | rfl
  · exact ⟨x, this⟩
  · exact ⟨y, this⟩
  · exact ⟨z, this⟩

end Go.Proofs.Ytjcmekhamohbnaa
