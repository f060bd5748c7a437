/-
  Plain facts: the bits of numbers, one behind the other, as the document's answer lays them.
-/
import Derived.Test.YtdelcaijehcaeaaBitpm
namespace Go.Proofs.Ytdelcaijehcaeaa
set_option linter.unusedVariables false

/-- The bit that stands at a place. -/
def bitAt (n : Nat) (us : List Nat) (q : Nat) : Bool := (us.getD (q / n) 0).testBit (n - 1 - q % n)

/-- The first q bits. -/
def bitsL (n : Nat) (us : List Nat) (q : Nat) : List Nat := (List.range q).map fun p => (bitAt n us p).toNat

theorem bitsL_length (n : Nat) (us : List Nat) (q : Nat) : (bitsL n us q).length = q := by simp [bitsL]

theorem bitsL_succ (n : Nat) (us : List Nat) (q : Nat) : bitsL n us (q + 1) = bitsL n us q ++ [(bitAt n us q).toNat] := by
  unfold bitsL; rw [List.range_succ, List.map_append]; rfl

theorem bitsL_get (n : Nat) (us : List Nat) (q p : Nat) (h : p < q) : (bitsL n us q)[p]? = some (bitAt n us p).toNat := by
  unfold bitsL; rw [List.getElem?_map, List.getElem?_range h]; rfl

theorem bitsL_lt (n : Nat) (us : List Nat) (q : Nat) : ∀ x ∈ bitsL n us q, x < 2 := by
  intro x hx
  obtain ⟨p, _, rfl⟩ := List.mem_map.1 hx
  cases bitAt n us p <;> decide

theorem bitAt_of (n : Nat) (us : List Nat) (i r : Nat) (hr : r < n) : bitAt n us (n * i + r) = (us.getD i 0).testBit (n - 1 - r) := by
  unfold bitAt
  rw [Nat.mul_add_div (by omega), Nat.div_eq_of_lt hr, Nat.mul_add_mod, Nat.mod_eq_of_lt hr, Nat.add_zero]

/-- The bytes of which the first i bits are set. -/
def OutTo (out : List Nat) (n : Nat) (us : List Nat) (i : Nat) : Prop :=
  out.length = (n * us.length + 7) / 8 ∧ (∀ j, out.getD j 0 < 256) ∧ ∀ q, q < 8 * out.length → bitB out q = (decide (q < i) && bitAt n us q)

theorem outTo_zero (n : Nat) (us : List Nat) : OutTo (List.replicate ((n * us.length + 7) / 8) 0) n us 0 := by
  refine ⟨by simp, fun i => by rw [getD_replicate_zero]; decide, fun q _ => ?_⟩
  unfold bitB; rw [getD_replicate_zero]; simp

theorem or_bit (x b s : Nat) (hs : s < 8) (hb : b < 2) (k : Nat) : (x ||| b * 2 ^ s).testBit k = (x.testBit k || (decide (k = s) && decide (b = 1))) := by
  rw [Nat.testBit_or, ← Nat.shiftLeft_eq, Nat.testBit_shiftLeft]
  by_cases hk : k = s
  · subst hk
    have : b = 0 ∨ b = 1 := by omega
    rcases this with rfl | rfl <;> simp
  · by_cases hks : k ≥ s
    · have : b = 0 ∨ b = 1 := by omega
      rcases this with rfl | rfl
      · simp [hk]
      · have h1 : (1 : Nat).testBit (k - s) = false := by
          have e1 : k - s = (k - s - 1) + 1 := by omega
          rw [e1, Nat.testBit_succ]; simp
        simp [hk, h1]
    · simp [hk, hks]

theorem or_lt (x b s : Nat) (hs : s < 8) (hb : b < 2) (hx : x < 256) : x ||| b * 2 ^ s < 256 := by
  have e : (256 : Nat) = 2 ^ 8 := by decide
  rw [e] at hx ⊢
  refine Nat.or_lt_two_pow hx ?_
  have h1 : b * 2 ^ s ≤ 1 * 2 ^ s := Nat.mul_le_mul_right _ (by omega)
  have h2 : (2 : Nat) ^ s < 2 ^ 8 := Nat.pow_lt_pow_right (by decide) hs
  omega

theorem outTo_step {out : List Nat} {n : Nat} {us : List Nat} {i : Nat} (h : OutTo out n us i) (hi : i < n * us.length) :
    OutTo (out.set (i / 8) (out.getD (i / 8) 0 ||| (bitAt n us i).toNat * 2 ^ (7 - i % 8))) n us (i + 1) := by
  obtain ⟨hl, h256, hb⟩ := h
  have hj : i / 8 < out.length := by omega
  have hbt : (bitAt n us i).toNat < 2 := by cases bitAt n us i <;> decide
  refine ⟨by rw [List.length_set]; exact hl, fun j => ?_, fun q hq => ?_⟩
  · rw [getD_set]
    split
    · exact or_lt _ _ _ (by omega) hbt (h256 _)
    · exact h256 j
  · rw [List.length_set] at hq
    have h0 := hb q hq
    unfold bitB at h0 ⊢
    rw [getD_set]
    by_cases hqj : i / 8 = q / 8
    · rw [if_pos ⟨hqj, hj⟩, or_bit _ _ _ (by omega) hbt, hqj, h0]
      by_cases hqi : q = i
      · subst hqi
        cases bitAt n us q <;> simp
      · have h1 : ¬ 7 - q % 8 = 7 - i % 8 := by omega
        simp only [h1, decide_false, Bool.false_and, Bool.or_false]
        congr 1
        rw [decide_eq_decide]
        omega
    · rw [if_neg (by rintro ⟨h1, _⟩; exact hqj h1), h0]
      congr 1
      rw [decide_eq_decide]
      have : q ≠ i := by rintro rfl; exact hqj rfl
      omega

theorem outTo_all {out : List Nat} {n : Nat} {us : List Nat} (h : OutTo out n us (n * us.length)) : out = packB n us := by
  refine bytes_ext (by rw [h.1, packB_length]) h.2.1 (packB_lt _ _) fun q hq => ?_
  rw [h.2.2 q hq]
  unfold packB
  rw [bytesOf_bit _ _ q (by rw [h.1] at hq; exact hq)]
  rfl

end Go.Proofs.Ytdelcaijehcaeaa
