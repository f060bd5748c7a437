/-
  Contract of null's Decode.
-/
import Derived.Test.YteloepccjoikdaaNullc
namespace Go.Proofs.Yteloepccjoikdaa
set_option linter.unusedVariables false
open Go.RowKit

theorem nextF_bound : ∀ (l : List Nat) (i U u n : Nat), nextF i U l = some (u, n) → i < n ∧ n ≤ i + l.length
  | [], i, U, u, n, h => by rw [nextF] at h; cases h
  | c :: l, i, U, u, n, h => by
    rw [nextF] at h
    split at h
    · cases h
    · split at h
      · have := nextF_bound l _ _ u n h
        rw [List.length_cons]; omega
      · split at h
        · cases h
        · simp only [Option.some.injEq, Prod.mk.injEq] at h
          rw [List.length_cons]; omega

theorem nextC_bound (l : List Nat) (u n : Nat) (h : nextC l = some (u, n)) : 0 < n ∧ n ≤ l.length := by
  have := nextF_bound l 0 0 u n h
  omega

theorem decN_none (b : List Nat) (h : nextC b = none) : decN b = none := by unfold decN; rw [h]
theorem decN_many (b : List Nat) (n k : Nat) (h : nextC b = some (n, k)) (hn : 65535 < n) : decN b = none := by unfold decN; rw [h]; simp only; rw [if_pos hn]
theorem decN_end (b : List Nat) (n k : Nat) (h : nextC b = some (n, k)) (hd : b.drop k = []) : decN b = none := by
  unfold decN; rw [h]; simp only; rw [hd]; simp
theorem decN_kind (b : List Nat) (n k kind : Nat) (rest : List Nat) (h : nextC b = some (n, k)) (hn : n ≤ 65535) (hd : b.drop k = kind :: rest) : decN b = decK n kind rest := by
  unfold decN; rw [h]; simp only; rw [if_neg (by omega), hd]

end Go.Proofs.Yteloepccjoikdaa
