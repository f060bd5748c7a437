/-
  Layer 5: of a row of one's own, one of its things turned, or laid anew.
-/
import Derived.Test.YteloepccjoikdaaBcs
namespace Go.Proofs.Yteloepccjoikdaa.Bc
set_option linter.unusedVariables false
set_option linter.unusedSimpArgs false
open Go.RowKit

theorem OwnE.at {base : Nat} {w : World} {v u : Value} {ps : Row} {x : By} {i : Nat} (h : OwnE base w v ps) (hi : ps[i]? = some (u, x)) : (v :: vs ps)[i + 1]? = some u := by
  rw [List.getElem?_cons_succ]
  unfold vs
  rw [List.getElem?_map, hi]
  rfl
theorem OwnE.unlike {base : Nat} {w : World} {v u : Value} {ps : Row} {x : By} {i : Nat} (h : OwnE base w v ps) (hi : ps[i]? = some (u, x)) : v.ownBlock = none ∨ v.ownBlock ≠ u.ownBlock := by
  cases e : v.ownBlock with
  | none => exact .inl rfl
  | some g =>
    right
    intro e2
    have := h.apart 0 (i + 1) v u g rfl (h.at hi) e e2.symm
    omega
theorem OwnE.other {base : Nat} {w : World} {v u a : Value} {ps : Row} {x y : By} {i j : Nat} (h : OwnE base w v ps) (hi : ps[i]? = some (u, x)) (hj : ps[j]? = some (a, y)) (hij : i ≠ j) : a.ownBlock = none ∨ a.ownBlock ≠ u.ownBlock := by
  cases e : a.ownBlock with
  | none => exact .inl rfl
  | some g =>
    right
    intro e2
    have := h.apart (j + 1) (i + 1) a u g (h.at hj) (h.at hi) e e2.symm
    omega
theorem ownR_gap {base g n cap : Nat} {w : World} {ps : Row} (h : OwnR base w (.slice (some ⟨g, 0, none⟩) n cap) ps) : n = ps.length := by
  obtain ⟨_, _, hv⟩ := h.shape
  simp only [Value.slice.injEq] at hv
  exact hv.2.1
/-- A byte of one of them turned. -/
theorem OwnE.poke {base ug n uc i k b : Nat} {w : World} {v : Value} {ps : Row} {x : By} (h : OwnE base w v ps) (hi : ps[i]? = some (.slice (some ⟨ug, 0, none⟩) n uc, x)) (hn : n = x.length) :
    OwnE base (w.setCell ⟨ug, k, none⟩ (.int .u8 (b : Int))) v (ps.set i (.slice (some ⟨ug, 0, none⟩) n uc, x.set k b)) := by
  subst hn
  have hg : w.grownBy (w.setCell ⟨ug, k, none⟩ (.int .u8 (b : Int))) (some ug) := grown_setCell _ _ _
  have hil := (List.getElem?_eq_some_iff.1 hi).1
  have hu := h.els _ (List.mem_of_getElem? hi)
  have hst := (World.ownsRow.stored hu k (.int .u8 (b : Int))).1
  have hvs : vs (ps.set i (.slice (some ⟨ug, 0, none⟩) (List.length x) uc, x.set k b)) = vs ps := by
    rw [vs_set]
    apply List.ext_getElem?
    intro j
    rw [List.getElem?_set]
    split
    · rename_i e
      subst e
      have h1 : (vs ps)[i]? = some (.slice (some ⟨ug, 0, none⟩) (List.length x) uc) := by unfold vs; rw [List.getElem?_map, hi]; rfl
      rw [h1, if_pos (by rw [len_vs]; exact hil)]
    · rfl
  refine ⟨?_, fun p hp => ?_, by rw [hvs]; exact h.apart⟩
  · refine OwnR.of (n := ps.length) ?_
    rw [hvs]
    exact World.ownsRow.kept h.row hg (h.unlike hi)
  · obtain ⟨j, hj⟩ := List.getElem?_of_mem hp
    rw [List.getElem?_set] at hj
    by_cases hij : i = j
    · rw [if_pos hij, if_pos hil] at hj
      cases hj
      refine OwnB.of (n := List.length x) ?_
      rw [List.map_set]
      exact hst
    · rw [if_neg hij] at hj
      exact World.ownsRow.kept (h.els p (List.mem_of_getElem? hj)) hg (h.other (a := p.1) (y := p.2) hi hj hij)
/-- One of them laid anew, of what it was. -/
theorem OwnE.anew {base g n cap i : Nat} {w w9 : World} {u u' : Value} {ps : Row} {x x' : By} (h : OwnE base w (.slice (some ⟨g, 0, none⟩) n cap) ps) (hi : ps[i]? = some (u, x)) (hg : w.grownBy w9 u.ownBlock) (hu' : OwnB base w9 u' x') (hn : ∀ k, u'.ownBlock = some k → u.ownBlock = some k ∨ w.heap.size ≤ k) :
    OwnE base (w9.setCell ⟨g, i, none⟩ u') (.slice (some ⟨g, 0, none⟩) n cap) (ps.set i (u', x')) := by
  have hil := (List.getElem?_eq_some_iff.1 hi).1
  have hng := ownR_gap h.row
  subst hng
  have hrow := World.ownsRow.kept h.row hg (h.unlike hi)
  have hst := World.ownsRow.stored hrow i u'
  have hgl := (h.blocks _ List.mem_cons_self g rfl).2
  have hnew : ∀ k, u'.ownBlock = some k → ∀ j a, j ≠ i + 1 → (Value.slice (some ⟨g, 0, none⟩) ps.length cap :: vs ps)[j]? = some a → a.ownBlock ≠ some k := fun k hk j a hj ha e => by
    rcases hn k hk with h1 | h1
    · exact hj (h.apart j (i + 1) a u k ha (h.at hi) e h1)
    · have := (h.blocks a (List.mem_of_getElem? ha) k e).2
      omega
  refine ⟨OwnR.of (n := ps.length) (by rw [vs_set]; exact hst.1), fun p hp => ?_, ?_⟩
  · obtain ⟨j, hj⟩ := List.getElem?_of_mem hp
    rw [List.getElem?_set] at hj
    by_cases hij : i = j
    · rw [if_pos hij, if_pos hil] at hj
      cases hj
      refine World.ownsRow.kept hu' hst.2 ?_
      cases e : u'.ownBlock with
      | none => exact .inl rfl
      | some k =>
        right
        intro e2
        simp only [Option.some.injEq] at e2
        subst e2
        exact hnew k e 0 _ (by omega) rfl rfl
    · rw [if_neg hij] at hj
      have h1 := World.ownsRow.kept (h.els p (List.mem_of_getElem? hj)) hg (h.other (a := p.1) (y := p.2) hi hj hij)
      refine World.ownsRow.kept h1 hst.2 ?_
      cases e : p.1.ownBlock with
      | none => exact .inl rfl
      | some k =>
        right
        intro e2
        simp only [Option.some.injEq] at e2
        subst e2
        have := h.apart 0 (j + 1) _ p.1 k rfl (h.at (u := p.1) (x := p.2) hj) rfl e
        omega
  · rw [vs_set]
    exact h.apart.set (k := i + 1) (u := u') hnew


end Go.Proofs.Yteloepccjoikdaa.Bc
