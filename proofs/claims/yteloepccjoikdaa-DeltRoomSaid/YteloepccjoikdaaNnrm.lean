/-
  Contract of norm.normal, by induction.
-/
import Derived.Test.YteloepccjoikdaaNsum
namespace Go.Proofs.Yteloepccjoikdaa
set_option linter.unusedVariables false
set_option linter.unusedSimpArgs false
open Go.RowKit

theorem rdT1F_op {X : Nat → Prop} {w : World} {k c o : Int} (o' : Int) {v : Vc} {l : List Pt} {s ls : Value} (h : RdT1F X w (.mk k c o v l) (cellsP k c o v s ls)) : RdT1F X w (.mk k c o' v l) (cellsP k c o' v s ls) := by
  unfold RdT1F at h ⊢
  obtain ⟨s', ls', css, he, h2, h3, h4⟩ := h
  simp only [cellsP, List.cons.injEq, true_and, and_true] at he
  obtain ⟨rfl, rfl⟩ := he
  exact ⟨s, ls, css, rfl, h2, h3, h4⟩
theorem prod_or_sum (k : Int) (nt : Bool) (c o : Int) (v : Vc) (l : List Pt) (h : k = 4 ∨ k = 5) : nrm (.mk k c o v l) nt = if (decide (k = 4) != nt) = true then prodN l nt [[]] else sumN l nt [] := by
  unfold nrm
  rcases h with rfl | rfl <;> simp

end Go.Proofs.Yteloepccjoikdaa
