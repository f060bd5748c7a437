/-
  Steps of a region that draws its order, shorter to write; a rest that several orders share.
-/
import Derived.Test.YtnfjdoeemnhkbaaLsix
namespace Go.Proofs.Ytnfjdoeemnhkbaa
set_option linter.unusedVariables false

theorem tkH {P : Program} {md : Region.Mode} {ops : Array Oper} {Q : Exit → Act → World → Prop} {S : World → Prop} (i : Nat) {oi : Oper} {v : Value} {fuel : Nat} {listed : Array Bool} {a : Act} {w : World} (hi : ops[i]? = some oi)
    (hy : YieldsIf P ops S oi v a) (h : wpAnyH P md ops Q S fuel (listed.setIfInBounds i true) (a.put oi.dst v) w)
    (hs : (Region.noSelect ops && Region.free md ops listed i && (Region.ready md ops listed).contains i) = true := by kernel_rfl)
    (hQ : ∀ c a w, Q (.panic c) (a.put oi.dst v) w → Q (.panic c) a w := by exact fun _ _ _ h => h) (hS : S w := by assumption) : wpAnyH P md ops Q S (fuel + 1) listed a w := by
  rw [Bool.and_eq_true, Bool.and_eq_true] at hs
  exact wpAnyH_take hi hs.1.1 hs.1.2 hs.2 hQ hy hS h
theorem listH {P : Program} {md : Region.Mode} {ops : Array Oper} {Q : Exit → Act → World → Prop} {S : World → Prop} {fuel : Nat} {l1 l2 : Array Bool} {a : Act} {w : World} (h : l1 = l2) (k : wpAnyH P md ops Q S fuel l2 a w) : wpAnyH P md ops Q S fuel l1 a w := h ▸ k
theorem shareH {G : Prop} (S : World → Prop) {H : Option Addr → Nat → Nat → Option Addr → Nat → Nat → World → Prop} (first_ : (∀ a b c d e f w, S w → H a b c d e f w) → G) (rest_ : ∀ a b c d e f w, S w → H a b c d e f w) : G := first_ rest_

end Go.Proofs.Ytnfjdoeemnhkbaa
