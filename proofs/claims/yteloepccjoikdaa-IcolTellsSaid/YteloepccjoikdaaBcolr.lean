/-
  Layer 5: the reference's SameRows; At, of a place that there is.
  Layer 5: the law's Column.
  Layer 5: of a row of one's own, one of its things turned, or laid anew.
-/
import Derived.Test.YteloepccjoikdaaBcolp
import Derived.BigRegion
namespace Go.Proofs.Yteloepccjoikdaa.Bc
set_option linter.unusedVariables false
set_option linter.unusedSimpArgs false
open Go.RowKit

theorem lt256 (bs : List Nat) (h : ∀ x ∈ bs, x < 256) : ∀ i, bs.getD i 0 < 256 := getD_256 h
theorem strOf_inj {a b : List Nat} (ha : ∀ x ∈ a, x < 256) (hb : ∀ x ∈ b, x < 256) (h : a ≠ b) : ((strOf a).toList == (strOf b).toList) = false := by
  rw [beq_eq_false_iff_ne, strOf_toList, strOf_toList]
  intro e
  apply h
  have key : ∀ (c d : List Nat), (∀ x ∈ c, x < 256) → (∀ x ∈ d, x < 256) → c.map UInt8.ofNat = d.map UInt8.ofNat → c = d := by
    intro c
    induction c with
    | nil => intro d _ _ hm; cases d with
      | nil => rfl
      | cons y t => simp at hm
    | cons x r ih =>
      intro d hc hd hm
      cases d with
      | nil => simp at hm
      | cons y t =>
        rw [List.map_cons, List.map_cons, List.cons.injEq] at hm
        have h1 : x % 256 = y % 256 := by
          have := congrArg UInt8.toNat hm.1
          rwa [UInt8.toNat_ofNat', UInt8.toNat_ofNat'] at this
        have h2 := hc x List.mem_cons_self
        have h3 := hd y List.mem_cons_self
        rw [show x = y by omega, ih t (fun z hz => hc z (List.mem_cons_of_mem _ hz)) (fun z hz => hd z (List.mem_cons_of_mem _ hz)) hm.2]
  exact key a b ha hb e

end Go.Proofs.Yteloepccjoikdaa.Bc

namespace Go.Proofs.Yteloepccjoikdaa.Bc
set_option linter.unusedVariables false
set_option linter.unusedSimpArgs false
open Go.RowKit

end Go.Proofs.Yteloepccjoikdaa.Bc

namespace Go.Proofs.Yteloepccjoikdaa.Bc
set_option linter.unusedVariables false
set_option linter.unusedSimpArgs false
open Go.RowKit

theorem OwnE.at {base : Nat} {w : World} {v u : Value} {ps : Row} {x : By} {i : Nat} (h : OwnE base w v ps) (hi : ps[i]? = some (u, x)) : (v :: vs ps)[i + 1]? = some u := by
  rw [List.getElem?_cons_succ]
  unfold vs
  rw [List.getElem?_map, hi]
  rfl
theorem OwnE.unlike {base : Nat} {w : World} {v u : Value} {ps : Row} {x : By} {i : Nat} (h : OwnE base w v ps) (hi : ps[i]? = some (u, x)) : v.ownBlock = none ∨ v.ownBlock ≠ u.ownBlock := by
  cases e : v.ownBlock with
  | none => exact .inl rfl
  | some g =>
    right
    intro e2
    have := h.apart 0 (i + 1) v u g rfl (h.at hi) e e2.symm
    omega
end Go.Proofs.Yteloepccjoikdaa.Bc
