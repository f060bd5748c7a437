/-
  Contracts of norm.sum and norm.product, of what normal answers for each.
-/
import Derived.Test.YteloepccjoikdaaNtim
import Derived.Test.YteloepccjoikdaaLseven
namespace Go.Proofs.Yteloepccjoikdaa
set_option linter.unusedVariables false
set_option linter.unusedSimpArgs false
open Go.RowKit

theorem rd_lit_agree {X : Nat → Prop} {w w' : World} {cs : Array Value} {E : TypeId} {n : Nat} (h : Agree X (w.alloc (.cells cs E)) w') (hx : ∀ b, X b → b < w.heap.size) (hn : n = cs.toList.length := by rfl) : Rd w' (.slice (some ⟨w.heap.size, 0, none⟩) n n) cs.toList := by
  subst hn
  refine ⟨some ⟨w.heap.size, 0, none⟩, cs.toList.length, rfl, ⟨(fun h => by cases h), Nat.le_refl _⟩, fun _ => ⟨w.heap.size, 0, rfl, fun i hi => ?_⟩⟩
  have h1 : w'.heap[w.heap.size]? = some (.cells cs E (0, 0)) := (h.block w.heap.size (by simp) fun e => by have := hx _ e; omega).trans (heap_alloc_new w _)
  rw [cell_of_row w' w.heap.size _ _ _ _ h1, Nat.zero_add, List.getD_eq_getElem?_getD, List.getElem?_eq_getElem hi]
  rw [← Array.getElem?_toList, List.getElem?_eq_getElem hi]
  rfl

/-- What a round knows of the predicate at hand. -/
theorem free_at {X : Nat → Prop} {w wr : World} {ls : Value} {l : List Pt} {css : List (List Value)} {lb k : Nat} {p : Pt} (h : Free X w (fun w' => RdS w' 8 ls css) ∧ RdTsF X w l css) (hx : X lb) (hg : w.grownBy wr (some lb)) (hp : l[k]? = some p) :
    ∃ cs, css[k]? = some cs ∧ RdT1F (fun b => X b ∨ w.heap.size ≤ b) wr p cs ∧ RdS wr 8 ls css := by
  obtain ⟨cs, h1, h2⟩ := h.2.at hp
  exact ⟨cs, h1, RdT1F.to (agree_grown hg) (fun b _ h => by cases h; exact hx) (fun b hb h => h.elim id fun h => by omega) _ h2, h.1 wr ((agree_grown hg).mono fun b _ h => by cases h; exact hx)⟩

end Go.Proofs.Yteloepccjoikdaa
