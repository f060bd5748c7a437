/-
  Contract of layer 5: words read.
  Contract of layer 5: a dictionary of bytes, read.
  Contracts of layer 5: the coder of bytes; Decode.
-/
import Derived.Test.YteloepccjoikdaaBcola
import Derived.Test.YteloepccjoikdaaIcole
import Derived.Test.YteloepccjoikdaaIcoli
namespace Go.Proofs.Yteloepccjoikdaa.Bc
set_option linter.unusedVariables false
set_option linter.unusedSimpArgs false
open Go.RowKit

end Go.Proofs.Yteloepccjoikdaa.Bc

namespace Go.Proofs.Yteloepccjoikdaa.Bc
set_option linter.unusedVariables false
set_option linter.unusedSimpArgs false
open Go.RowKit

theorem vs_set (ps : Row) (k : Nat) (u : Value) (x : By) : vs (ps.set k (u, x)) = (vs ps).set k u := by unfold vs; rw [List.map_set]
theorem OwnE.set {base B g n cap k : Nat} {w : World} {u : Value} {ps : Row} {x : By} (h : OwnE base w (.slice (some ⟨g, 0, none⟩) n cap) ps) (hk : k < ps.length) (hu : OwnB B w u x) (hB : base ≤ B) (hf : ∀ a ∈ Value.slice (some ⟨g, 0, none⟩) n cap :: vs ps, ∀ b, a.ownBlock = some b → b < B) :
    OwnE base (w.setCell ⟨g, k, none⟩ u) (.slice (some ⟨g, 0, none⟩) n cap) (ps.set k (u, x)) := by
  have hg : w.grownBy (w.setCell ⟨g, k, none⟩ u) (some g) := grown_setCell _ _ _
  have hap := h.apart
  obtain ⟨_, _, hv⟩ := h.row.shape
  have hn : n = ps.length := by simp only [Value.slice.injEq] at hv; exact hv.2.1
  subst hn
  clear hv
  have hst := World.ownsRow.stored h.row k u
  refine ⟨OwnR.of (n := ps.length) (by rw [vs_set]; exact hst.1), fun p hp => ?_, ?_⟩
  · obtain ⟨i, hi⟩ := List.getElem?_of_mem hp
    rw [List.getElem?_set] at hi
    by_cases hki : k = i
    · rw [if_pos hki] at hi
      split at hi
      · cases hi
        refine World.ownsRow.kept (own_mono hu hB) hg ?_
        cases e : u.ownBlock with
        | none => exact .inl rfl
        | some b =>
          right
          intro e2
          have h1 := hf _ List.mem_cons_self g rfl
          have h2 := ownB_base hu b e
          simp only [Option.some.injEq] at e2
          omega
      · exact absurd hk (by assumption)
    · rw [if_neg hki] at hi
      refine World.ownsRow.kept (h.els p (List.mem_of_getElem? hi)) hg ?_
      cases e : p.1.ownBlock with
      | none => exact .inl rfl
      | some b =>
        right
        intro e2
        simp only [Option.some.injEq] at e2
        subst e2
        have := hap 0 (i + 1) _ p.1 b rfl (by rw [List.getElem?_cons_succ]; unfold vs; rw [List.getElem?_map, hi]; rfl) rfl e
        omega
  · rw [vs_set]
    have h1 := hap.set (k := k + 1) (u := u) (fun b hb i a hi ha e => by
      have h2 := hf a (List.mem_of_getElem? ha) b e
      have h3 := ownB_base hu b hb
      omega)
    exact h1

end Go.Proofs.Yteloepccjoikdaa.Bc

namespace Go.Proofs.Yteloepccjoikdaa.Bc
set_option linter.unusedVariables false
set_option linter.unusedSimpArgs false
open Go.RowKit

end Go.Proofs.Yteloepccjoikdaa.Bc
