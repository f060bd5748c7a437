/-
  Plain facts: what bitp.Pack and bitp.Unpack come to, as lists.
-/
import Derived.Test.YteloepccjoikdaaPutm
namespace Go.Proofs.Yteloepccjoikdaa
set_option linter.unusedVariables false

def heldN (n : Int) : Nat := (min (max n 0) 64).toNat

theorem heldN_le (n : Int) : heldN n ≤ 64 := by unfold heldN; omega

/-- The byte whose bits are f 0 to f 7, the highest first. -/
def byteOf (f : Nat → Bool) : Nat :=
  (f 0).toNat * 128 + (f 1).toNat * 64 + (f 2).toNat * 32 + (f 3).toNat * 16 + (f 4).toNat * 8 + (f 5).toNat * 4 + (f 6).toNat * 2 + (f 7).toNat

theorem byteOf_lt (f : Nat → Bool) : byteOf f < 256 := by
  unfold byteOf
  have h := fun k => Bool.toNat_lt (f k)
  have := h 0; have := h 1; have := h 2; have := h 3; have := h 4; have := h 5; have := h 6; have := h 7
  omega

theorem byte_bits : ∀ a b c d e f g h : Bool, ∀ k : Fin 8, (a.toNat * 128 + b.toNat * 64 + c.toNat * 32 + d.toNat * 16 + e.toNat * 8 + f.toNat * 4 + g.toNat * 2 + h.toNat).testBit (7 - k.1) =
    (match k with | 0 => a | 1 => b | 2 => c | 3 => d | 4 => e | 5 => f | 6 => g | 7 => h) := by decide +kernel

theorem byteOf_bit (f : Nat → Bool) (k : Nat) (hk : k < 8) : (byteOf f).testBit (7 - k) = f k := by
  have := byte_bits (f 0) (f 1) (f 2) (f 3) (f 4) (f 5) (f 6) (f 7) ⟨k, hk⟩
  unfold byteOf
  rw [this]
  have h : k = 0 ∨ k = 1 ∨ k = 2 ∨ k = 3 ∨ k = 4 ∨ k = 5 ∨ k = 6 ∨ k = 7 := by omega
  rcases h with rfl | rfl | rfl | rfl | rfl | rfl | rfl | rfl <;> rfl

/-- The row of bytes whose first c bits are f. -/
def bytesOf (c : Nat) (f : Nat → Bool) : List Nat := (List.range ((c + 7) / 8)).map fun j => byteOf fun k => decide (8 * j + k < c) && f (8 * j + k)

theorem bytesOf_length (c : Nat) (f : Nat → Bool) : (bytesOf c f).length = (c + 7) / 8 := by simp [bytesOf]

theorem bytesOf_getD (c : Nat) (f : Nat → Bool) (j : Nat) (hj : j < (c + 7) / 8) : (bytesOf c f).getD j 0 = byteOf fun k => decide (8 * j + k < c) && f (8 * j + k) := by
  unfold bytesOf
  rw [List.getD_eq_getElem?_getD, List.getElem?_map, List.getElem?_range hj]
  rfl

theorem bytesOf_lt (c : Nat) (f : Nat → Bool) (j : Nat) : (bytesOf c f).getD j 0 < 256 := by
  by_cases hj : j < (c + 7) / 8
  · rw [bytesOf_getD c f j hj]; exact byteOf_lt _
  · rw [List.getD_eq_getElem?_getD, List.getElem?_eq_none (by rw [bytesOf_length]; omega)]; decide

theorem bytesOf_bit (c : Nat) (f : Nat → Bool) (q : Nat) (hq : q < 8 * ((c + 7) / 8)) : bitB (bytesOf c f) q = (decide (q < c) && f q) := by
  unfold bitB
  rw [bytesOf_getD c f (q / 8) (by omega), byteOf_bit _ _ (by omega)]
  have e : 8 * (q / 8) + q % 8 = q := by omega
  rw [e]

/-- Rows of bytes of one length are told by their bits. -/
theorem bytes_ext {a b : List Nat} (hl : a.length = b.length) (ha : ∀ i, a.getD i 0 < 256) (hb : ∀ i, b.getD i 0 < 256) (h : ∀ q, q < 8 * a.length → bitB a q = bitB b q) : a = b := by
  apply List.ext_getElem? ; intro i
  by_cases hi : i < a.length
  · have key : a.getD i 0 = b.getD i 0 := by
      apply Nat.eq_of_testBit_eq; intro k
      by_cases hk : k < 8
      · have := h (8 * i + (7 - k)) (by omega)
        unfold bitB at this
        rw [show (8 * i + (7 - k)) / 8 = i from by omega, show 7 - (8 * i + (7 - k)) % 8 = k from by omega] at this
        exact this
      · have h256 : (2 : Nat) ^ 8 ≤ 2 ^ k := Nat.pow_le_pow_right (by decide) (by omega)
        have e8 : (2 : Nat) ^ 8 = 256 := by decide
        rw [Nat.testBit_lt_two_pow (Nat.lt_of_lt_of_le (ha i) (by omega)), Nat.testBit_lt_two_pow (Nat.lt_of_lt_of_le (hb i) (by omega))]
    rw [List.getElem?_eq_getElem hi, List.getElem?_eq_getElem (by omega)]
    rw [List.getD_eq_getElem?_getD, List.getD_eq_getElem?_getD, List.getElem?_eq_getElem hi, List.getElem?_eq_getElem (by omega : i < b.length)] at key
    simpa using key
  · rw [List.getElem?_eq_none (by omega), List.getElem?_eq_none (by omega)]

/-- What Pack tells of numbers, n bits each. -/
def packB (n : Nat) (us : List Nat) : List Nat := bytesOf (n * us.length) fun q => (us.getD (q / n) 0).testBit (n - 1 - q % n)

/-- k of the numbers are there. -/
def PackTo (bs us : List Nat) (n k : Nat) : Prop :=
  bs.length = (n * us.length + 7) / 8 ∧ (∀ i, bs.getD i 0 < 256) ∧ ∀ q, q < 8 * bs.length → bitB bs q = (decide (q < n * k) && (us.getD (q / n) 0).testBit (n - 1 - q % n))

theorem getD_replicate_zero (L i : Nat) : (List.replicate L 0).getD i 0 = 0 := by
  rw [List.getD_eq_getElem?_getD]
  by_cases h : i < L
  · rw [List.getElem?_replicate, if_pos h]; rfl
  · rw [List.getElem?_replicate, if_neg h]; rfl

theorem packTo_zero (us : List Nat) (n : Nat) : PackTo (List.replicate ((n * us.length + 7) / 8) 0) us n 0 := by
  refine ⟨by simp, fun i => by rw [getD_replicate_zero]; decide, fun q _ => ?_⟩
  unfold bitB; rw [getD_replicate_zero]; simp

theorem bitB_end {bs : List Nat} {q : Nat} (h : 8 * bs.length ≤ q) : bitB bs q = false := by
  unfold bitB
  rw [List.getD_eq_getElem?_getD, List.getElem?_eq_none (by omega)]; simp

theorem packTo_free {bs us : List Nat} {n k : Nat} (h : PackTo bs us n k) : ∀ q, n * k ≤ q → bitB bs q = false := by
  intro q hq
  by_cases hl : q < 8 * bs.length
  · rw [h.2.2 q hl]; simp; omega
  · exact bitB_end (by omega)

theorem packTo_step {bs bs' us : List Nat} {n k : Nat} (h : PackTo bs us n k) (hp : PutTo bs bs' (n * k) n (us.getD k 0) n) : PackTo bs' us n (k + 1) := by
  refine ⟨hp.1.trans h.1, hp.2.1, fun q hq => ?_⟩
  rw [hp.1] at hq
  rw [hp.2.2 q hq]
  by_cases h1 : q < n * k
  · rw [if_pos h1, h.2.2 q hq]
    have : q < n * (k + 1) := by rw [Nat.mul_succ]; omega
    simp [h1, this]
  · rw [if_neg h1]
    by_cases h2 : q < n * k + n
    · rw [if_pos h2]
      have h3 : q < n * (k + 1) := by rw [Nat.mul_succ]; omega
      have hn : 0 < n := by omega
      obtain ⟨r, rfl⟩ : ∃ r, q = n * k + r := ⟨q - n * k, by omega⟩
      have hr : r < n := by omega
      have e1 : (n * k + r) / n = k := by rw [Nat.mul_add_div hn, Nat.div_eq_of_lt hr]; omega
      have e2 : (n * k + r) % n = r := by rw [Nat.mul_add_mod, Nat.mod_eq_of_lt hr]
      rw [e1, e2]
      have e3 : n * k + r - n * k = r := by omega
      rw [e3]; simp [h3]
    · rw [if_neg h2]
      have : ¬ q < n * (k + 1) := by rw [Nat.mul_succ]; omega
      simp [this]

theorem packTo_all {bs us : List Nat} {n : Nat} (h : PackTo bs us n us.length) : bs = packB n us := by
  refine bytes_ext (by rw [h.1, packB, bytesOf_length]) h.2.1 (bytesOf_lt _ _) fun q hq => ?_
  rw [h.2.2 q hq, packB, bytesOf_bit _ _ q (by rw [h.1] at hq; exact hq)]

theorem packB_length (n : Nat) (us : List Nat) : (packB n us).length = (n * us.length + 7) / 8 := bytesOf_length _ _
theorem packB_lt (n : Nat) (us : List Nat) (i : Nat) : (packB n us).getD i 0 < 256 := bytesOf_lt _ _ _

/-- Are the bits behind the first c of them zero? -/
def spareB (bs : List Nat) (c : Nat) : Bool := bs.getD (bs.length - 1) 0 % 2 ^ (8 * bs.length - c) == 0

/-- What Unpack reads. -/
def unpackB (bs : List Nat) (n count : Int) : Option (List Nat) :=
  if 0 ≤ count ∧ count ≤ 65535 ∧ bs.length = (heldN n * count.toNat + 7) / 8 ∧ spareB bs (heldN n * count.toNat) = true then
    some ((List.range count.toNat).map fun i => numB bs (i * heldN n) (heldN n))
  else none

/-- What At tells. -/
def atB (bs : List Nat) (n i : Int) : Option Nat :=
  if heldN n = 0 then (if 0 ≤ i ∧ i < 65535 then some 0 else none)
  else if 0 ≤ i ∧ i < ((bs.length * 8 / heldN n : Nat) : Int) then some (numB bs (i.toNat * heldN n) (heldN n)) else none

end Go.Proofs.Yteloepccjoikdaa
