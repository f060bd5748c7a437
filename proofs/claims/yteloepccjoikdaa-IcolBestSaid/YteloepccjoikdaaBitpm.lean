/-
  Plain facts: how many bits a number has; what is packed is read.
-/
import Derived.Test.YteloepccjoikdaaPackm
import Derived.Lib.BitFns
namespace Go.Proofs.Yteloepccjoikdaa
set_option linter.unusedVariables false

theorem bitLenAux_spec (f x : Nat) (hx : x < 2 ^ f) : Lib.bitLenAux f x ≤ f ∧ x < 2 ^ Lib.bitLenAux f x ∧ (0 < Lib.bitLenAux f x → x / 2 ^ (Lib.bitLenAux f x - 1) = 1) := by
  induction f generalizing x with
  | zero => have : x = 0 := by simpa using hx
            subst this; simp [Lib.bitLenAux]
  | succ f ih =>
    unfold Lib.bitLenAux
    by_cases h0 : x = 0
    · subst h0; simp
    · rw [if_neg h0]
      have hx2 : x / 2 < 2 ^ f := by rw [Nat.pow_succ] at hx; omega
      obtain ⟨i1, i2, i3⟩ := ih (x / 2) hx2
      refine ⟨by omega, ?_, fun _ => ?_⟩
      · rw [Nat.add_comm, Nat.pow_succ]; omega
      · rw [show 1 + Lib.bitLenAux f (x / 2) - 1 = Lib.bitLenAux f (x / 2) from by omega]
        by_cases hz : Lib.bitLenAux f (x / 2) = 0
        · rw [hz] at i2 ⊢
          simp at i2 ⊢; omega
        · have := i3 (by omega)
          obtain ⟨k, hk⟩ : ∃ k, Lib.bitLenAux f (x / 2) = k + 1 := ⟨_, (Nat.succ_pred_eq_of_ne_zero hz).symm⟩
          rw [hk] at this ⊢
          rw [show k + 1 - 1 = k from rfl, Nat.div_div_eq_div_mul] at this
          rw [Nat.pow_succ, Nat.mul_comm]; exact this

theorem bitLen_spec (x : Nat) (hx : x < 18446744073709551616) : Lib.bitLen x ≤ 64 ∧ x < 2 ^ Lib.bitLen x ∧ (0 < Lib.bitLen x → x / 2 ^ (Lib.bitLen x - 1) = 1) :=
  bitLenAux_spec 64 x (by have : (2 : Nat) ^ 64 = 18446744073709551616 := by decide
                          omega)

theorem bitLen_unique {x m n : Nat} (hx : x < 2 ^ m) (hm : 0 < m → x / 2 ^ (m - 1) = 1) (hx' : x < 2 ^ n) (hn : 0 < n → x / 2 ^ (n - 1) = 1) : m = n := by
  rcases Nat.lt_trichotomy m n with h | h | h
  · have h1 := hn (by omega)
    have h2 : (2 : Nat) ^ m ≤ 2 ^ (n - 1) := Nat.pow_le_pow_right (by decide) (by omega)
    rw [Nat.div_eq_of_lt (by omega)] at h1; cases h1
  · exact h
  · have h1 := hm (by omega)
    have h2 : (2 : Nat) ^ n ≤ 2 ^ (m - 1) := Nat.pow_le_pow_right (by decide) (by omega)
    rw [Nat.div_eq_of_lt (by omega)] at h1; cases h1

theorem bitLen_double {x : Nat} (hx : 0 < x) (h2 : 2 * x < 18446744073709551616) : Lib.bitLen (2 * x) = Lib.bitLen x + 1 := by
  obtain ⟨a1, a2, a3⟩ := bitLen_spec x (by omega)
  obtain ⟨b1, b2, b3⟩ := bitLen_spec (2 * x) h2
  refine bitLen_unique b2 b3 (by rw [Nat.pow_succ]; omega) (fun _ => ?_)
  rw [Nat.add_sub_cancel]
  have hp : 0 < Lib.bitLen x := by
    rcases Nat.eq_zero_or_pos (Lib.bitLen x) with h | h
    · rw [h] at a2; simp at a2; omega
    · exact h
  have h3 := a3 hp
  obtain ⟨k, hk⟩ : ∃ k, Lib.bitLen x = k + 1 := ⟨Lib.bitLen x - 1, by omega⟩
  rw [hk, Nat.add_sub_cancel] at h3
  rw [hk, Nat.pow_succ, Nat.mul_comm 2 x, Nat.mul_div_mul_right _ _ (by decide)]; exact h3

/-- A number that fits is read as it was packed. -/
theorem numB_pack (n : Nat) (us : List Nat) (k : Nat) (hk : k < us.length) : numB (packB n us) (k * n) n = us.getD k 0 % 2 ^ n := by
  apply Nat.eq_of_testBit_eq; intro i
  rw [numB_bits, Nat.testBit_mod_two_pow]
  by_cases hi : i < n
  · simp only [hi, decide_true, Bool.true_and]
    have hn : 0 < n := by omega
    obtain ⟨r, hr⟩ : ∃ r, r = n - 1 - i := ⟨_, rfl⟩
    rw [← hr]
    have hrl : r < n := by omega
    have hkn : k * n + n ≤ n * us.length := by
      have : (k + 1) * n ≤ us.length * n := Nat.mul_le_mul_right _ hk
      rw [Nat.succ_mul] at this; rw [Nat.mul_comm n]; exact this
    have hq : k * n + r < n * us.length := by omega
    unfold packB
    rw [bytesOf_bit _ _ _ (by omega)]
    simp only [hq, decide_true, Bool.true_and]
    have e1 : (k * n + r) / n = k := by rw [Nat.mul_comm k n, Nat.mul_add_div hn, Nat.div_eq_of_lt hrl]; omega
    have e2 : (k * n + r) % n = r := by rw [Nat.mul_comm k n, Nat.mul_add_mod, Nat.mod_eq_of_lt hrl]
    rw [e1, e2, show n - 1 - r = i from by omega]
  · simp [hi]

theorem packB_mem (n : Nat) (us : List Nat) : ∀ x ∈ packB n us, x < 256 := by
  intro x hx
  obtain ⟨i, hi, rfl⟩ := List.getElem_of_mem hx
  have := packB_lt n us i
  rwa [List.getD_eq_getElem?_getD, List.getElem?_eq_getElem hi] at this

theorem heldN_id (n : Nat) (h : n ≤ 64) : heldN (n : Int) = n := by unfold heldN; omega

theorem at_pack (n : Nat) (us : List Nat) (k : Nat) (hn : n ≤ 64) (hk : k < us.length) (hk2 : k < 65535) : atB (packB n us) (n : Int) (k : Int) = some (us.getD k 0 % 2 ^ n) := by
  unfold atB
  rw [heldN_id n hn]
  by_cases h0 : n = 0
  · subst h0
    rw [if_pos rfl, if_pos (by omega)]
    simp [Nat.mod_one]
  · rw [if_neg h0]
    have hkn : k * n + n ≤ n * us.length := by
      have : (k + 1) * n ≤ us.length * n := Nat.mul_le_mul_right _ hk
      rw [Nat.succ_mul] at this; rw [Nat.mul_comm n]; exact this
    have h1 : k < (packB n us).length * 8 / n := by
      rw [Nat.lt_div_iff_mul_lt (by omega), packB_length]
      omega
    rw [if_pos (by omega), Int.toNat_natCast, numB_pack n us k hk]

theorem spare_pack (n : Nat) (us : List Nat) : spareB (packB n us) (n * us.length) = true := by
  unfold spareB
  rw [beq_iff_eq]
  apply Nat.eq_of_testBit_eq; intro k
  rw [Nat.testBit_mod_two_pow, Nat.zero_testBit]
  by_cases hk : k < 8 * (packB n us).length - n * us.length
  · have hl := packB_length n us
    have hpos : 0 < (packB n us).length := by omega
    have hq : 8 * ((packB n us).length - 1) + (7 - k) < 8 * ((n * us.length + 7) / 8) := by omega
    have hb := bytesOf_bit (n * us.length) (fun q => (us.getD (q / n) 0).testBit (n - 1 - q % n)) _ hq
    have hc : ¬ 8 * ((packB n us).length - 1) + (7 - k) < n * us.length := by omega
    rw [decide_eq_false hc, Bool.false_and] at hb
    unfold bitB at hb
    rw [show (8 * ((packB n us).length - 1) + (7 - k)) / 8 = (packB n us).length - 1 from by omega, show 7 - (8 * ((packB n us).length - 1) + (7 - k)) % 8 = k from by omega] at hb
    change ((packB n us).getD ((packB n us).length - 1) 0).testBit k = false at hb
    rw [hb, Bool.and_false]
  · simp [hk]

theorem unpack_pack (n : Nat) (us : List Nat) (hn : n ≤ 64) (hl : us.length ≤ 65535) (hu : ∀ x ∈ us, x < 2 ^ n) : unpackB (packB n us) (n : Int) (us.length : Int) = some us := by
  unfold unpackB
  rw [heldN_id n hn, Int.toNat_natCast, if_pos ⟨by omega, by omega, packB_length n us, spare_pack n us⟩]
  congr 1
  apply List.ext_getElem? ; intro i
  rw [List.getElem?_map]
  by_cases hi : i < us.length
  · rw [List.getElem?_range hi, List.getElem?_eq_getElem hi]
    simp only [Option.map_some]
    rw [numB_pack n us i hi, List.getD_eq_getElem?_getD, List.getElem?_eq_getElem hi]
    simp only [Option.getD_some]
    rw [Nat.mod_eq_of_lt (hu _ (List.getElem_mem hi))]
  · rw [List.getElem?_eq_none (by simp; omega), List.getElem?_eq_none (by omega)]; rfl

end Go.Proofs.Yteloepccjoikdaa
