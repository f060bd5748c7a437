/-
  Plain facts: the bytes that bools have, and the bools that bytes begin with.
  Contracts of null's Count, numbers, all.
  Contract of null's Encode.
  Contract of null's decodeMixed.
  Contract of null's Decode.
-/
import Derived.Test.YtjcmekhamohbnaaCodg
import Derived.Test.YtjcmekhamohbnaaPlmath
import Derived.Test.YtjcmekhamohbnaaUnpack
import Derived.Test.YtjcmekhamohbnaaAwkg
import Derived.OwnWalk
import Derived.BigRegion
namespace Go.Proofs.Ytjcmekhamohbnaa
set_option linter.unusedVariables false

end Go.Proofs.Ytjcmekhamohbnaa

namespace Go.Proofs.Ytjcmekhamohbnaa
set_option linter.unusedVariables false
open Go.RowKit

end Go.Proofs.Ytjcmekhamohbnaa

namespace Go.Proofs.Ytjcmekhamohbnaa
set_option linter.unusedVariables false
open Go.RowKit

theorem ret_own {B : Nat} {E : TypeId} {xs : List Value} {v : Value} {n : Nat} {w w3 : World} (h : w3.ownsRow B E 1 v n xs) (hb : Below w.heap.size w w3) : RetOwn B E xs w (.returned v) w3 := by
  have hl : xs.length = n := by simpa using h.1
  subst hl
  obtain ⟨ao', cap', hv⟩ := own_shape h
  subst hv
  exact ⟨ao', cap', rfl, h, hb⟩

theorem below_own {w a b : World} {E : TypeId} {v : Value} {n : Nat} {xs : List Value} (hB : Below w.heap.size w a) (HO : a.ownsRow w.heap.size E 1 v n xs) (hg : a.grownBy b v.ownBlock) : Below w.heap.size w b :=
  hB.grown hg hB.size (by
    intro k hk
    rcases HO.2 with ⟨h, _⟩ | ⟨g', cap', cur, h, hbg, _⟩
    · rw [h] at hk; cases hk
    · rw [h] at hk; cases hk; exact hbg)

end Go.Proofs.Ytjcmekhamohbnaa

namespace Go.Proofs.Ytjcmekhamohbnaa
set_option linter.unusedVariables false
open Go.RowKit

end Go.Proofs.Ytjcmekhamohbnaa

namespace Go.Proofs.Ytjcmekhamohbnaa
set_option linter.unusedVariables false
open Go.RowKit

theorem nextF_bound : ∀ (l : List Nat) (i U u n : Nat), nextF i U l = some (u, n) → i < n ∧ n ≤ i + l.length
  | [], i, U, u, n, h => by rw [nextF] at h; cases h
  | c :: l, i, U, u, n, h => by
    rw [nextF] at h
    split at h
    · cases h
    · split at h
      · have := nextF_bound l _ _ u n h
        rw [List.length_cons]; omega
      · split at h
        · cases h
        · simp only [Option.some.injEq, Prod.mk.injEq] at h
          rw [List.length_cons]; omega

theorem nextC_bound (l : List Nat) (u n : Nat) (h : nextC l = some (u, n)) : 0 < n ∧ n ≤ l.length := by
  have := nextF_bound l 0 0 u n h
  omega

end Go.Proofs.Ytjcmekhamohbnaa
