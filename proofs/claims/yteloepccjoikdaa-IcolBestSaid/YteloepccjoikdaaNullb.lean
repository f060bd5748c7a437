/-
  Contract of null's Encode.
-/
import Derived.Test.YteloepccjoikdaaNulla
import Derived.Test.YteloepccjoikdaaAwakb
import Derived.Test.YteloepccjoikdaaAwaka
namespace Go.Proofs.Yteloepccjoikdaa
set_option linter.unusedVariables false
open Go.RowKit

theorem ret_own {B : Nat} {E : TypeId} {xs : List Value} {v : Value} {n : Nat} {w w3 : World} (h : w3.ownsRow B E 1 v n xs) (hb : Below w.heap.size w w3) : RetOwn B E xs w (.returned v) w3 := by
  have hl : xs.length = n := by simpa using h.1
  subst hl
  obtain ⟨ao', cap', hv⟩ := own_shape h
  subst hv
  exact ⟨ao', cap', rfl, h, hb⟩

/-- Behind a growth of a row of one's own. -/
theorem below_own {w a b : World} {E : TypeId} {v : Value} {n : Nat} {xs : List Value} (hB : Below w.heap.size w a) (HO : a.ownsRow w.heap.size E 1 v n xs) (hg : a.grownBy b v.ownBlock) : Below w.heap.size w b :=
  hB.grown hg hB.size (by
    intro k hk
    rcases HO.2 with ⟨h, _⟩ | ⟨g', cap', cur, h, hbg, _⟩
    · rw [h] at hk; cases hk
    · rw [h] at hk; cases hk; exact hbg)

/-- A row of one's own, behind a call that turned nothing. -/
theorem own_below {a b : World} {B : Nat} {E : TypeId} {v : Value} {n : Nat} {xs : List Value} (h : a.ownsRow B E 1 v n xs) (hb : Below a.heap.size a b) : b.ownsRow B E 1 v n xs :=
  h.kept (grown_of_below hb none) (by
    cases h : v.ownBlock with
    | none => exact .inl rfl
    | some g => exact .inr (by intro h2; cases h2))

end Go.Proofs.Yteloepccjoikdaa
