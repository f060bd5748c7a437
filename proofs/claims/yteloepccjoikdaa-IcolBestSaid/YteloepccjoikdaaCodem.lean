/-
  Plain facts: numbers in groups of seven bits.
-/
import Derived.Test.YteloepccjoikdaaBits
namespace Go.Proofs.Yteloepccjoikdaa
set_option linter.unusedVariables false

/-- A number's bytes, with f groups more at most. -/
def numF : Nat → Nat → List Nat
  | 0, u => [u]
  | f + 1, u => if u < 128 then [u] else (u % 128 + 128) :: numF f (u / 128)

def numC (u : Nat) : List Nat := numF 9 u

theorem numF_small (f u : Nat) (h : u < 128) : numF f u = [u] := by
  cases f with
  | zero => rfl
  | succ f => rw [numF, if_pos h]

theorem numF_big (f u : Nat) (h : ¬ u < 128) : numF (f + 1) u = (u % 128 + 128) :: numF f (u / 128) := by rw [numF, if_neg h]

theorem numF_len (f u : Nat) : (numF f u).length ≤ f + 1 ∧ 0 < (numF f u).length := by
  induction f generalizing u with
  | zero => simp [numF]
  | succ f ih =>
    rw [numF]
    split
    · simp
    · simp; exact (ih _).1

theorem numF_lt (f u : Nat) (h : u < 128 ^ (f + 1)) : ∀ x ∈ numF f u, x < 256 := by
  induction f generalizing u with
  | zero => intro x hx; simp [numF] at hx; subst hx; simp at h; omega
  | succ f ih =>
    intro x hx
    rw [numF] at hx
    split at hx
    · simp at hx; subst hx; omega
    · simp at hx
      rcases hx with rfl | hx
      · omega
      · exact ih (u / 128) (by rw [Nat.pow_succ] at h; omega) x hx

theorem numC_lt (u : Nat) (h : u < 18446744073709551616) : ∀ x ∈ numC u, x < 256 :=
  numF_lt 9 u (Nat.lt_of_lt_of_le h (by decide))

theorem or_high (U : Nat) : bits .or .u8 ((U : Int) % 256) 128 = ((U % 128 + 128 : Nat) : Int) := by
  have e : (U : Int) % 256 = ((U % 256 : Nat) : Int) := by simp
  have e2 : (128 : Int) = ((128 : Nat) : Int) := rfl
  have h1 : U % 256 < 256 := Nat.mod_lt _ (by decide)
  rw [e, e2, u8_or_nat _ _ h1 (by decide)]
  have h2 : U % 256 = U % 128 + U / 128 % 2 * 128 := by omega
  have h3 : U / 128 % 2 = 0 ∨ U / 128 % 2 = 1 := by omega
  have h4 : U % 128 < 128 := Nat.mod_lt _ (by decide)
  have h5 : 128 ||| U % 128 = 128 + U % 128 := nat_join 7 128 (U % 128) (by decide) (by simpa using h4)
  rcases h3 with h3 | h3
  · rw [h2, h3, Nat.zero_mul, Nat.add_zero, Nat.or_comm, h5, Nat.add_comm]
  · rw [h2, h3, Nat.one_mul]
    have h6 : U % 128 + 128 = 128 ||| U % 128 := by rw [h5, Nat.add_comm]
    rw [h6, Nat.or_comm, ← Nat.or_assoc, Nat.or_self]

end Go.Proofs.Yteloepccjoikdaa
