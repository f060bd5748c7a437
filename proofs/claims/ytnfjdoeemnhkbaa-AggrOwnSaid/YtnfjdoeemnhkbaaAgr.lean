/-
  Rows, deep one's own.
-/
import Derived.Test.YtnfjdoeemnhkbaaFrow
import Derived.Test.YtnfjdoeemnhkbaaZof
namespace Go.Proofs.Ytnfjdoeemnhkbaa
set_option linter.unusedVariables false
set_option linter.unusedSimpArgs false
open Go.RowKit

/-- A row as it lies: its slice, its values. -/
abbrev El := Value × List (Vc × Value)
def El.row (x : El) : List Vc := x.2.map Prod.fst
/-- Rows, deep one's own, from block K on. -/
def OwnD (K : Nat) (w : World) (v : Value) (E : List El) : Prop :=
  w.ownsRow K 33 1 v E.length (E.map Prod.fst) ∧ ∀ x ∈ E, RdRA K w x.1 x.2
theorem rdRs_of {w : World} {v : Value} {E : List El} (h : Rd w v (E.map Prod.fst)) (hr : ∀ x ∈ E, RdP w x.1 x.2) : RdRs w v (E.map Prod.snd) := by
  refine ⟨E.map Prod.fst, h, by rw [List.length_map, List.length_map], fun i s l hs hl => ?_⟩
  rw [List.getElem?_map] at hs hl
  cases hx : E[i]? with
  | none => rw [hx] at hs; cases hs
  | some x =>
    rw [hx] at hs hl
    simp only [Option.map_some, Option.some.injEq] at hs hl
    subst hs hl
    exact hr x (List.mem_of_getElem? hx)
theorem OwnD.rds {K : Nat} {w : World} {v : Value} {E : List El} (h : OwnD K w v E) : RdRs w v (E.map Prod.snd) := rdRs_of (Rd.of_owns h.1) fun x hx => (h.2 x hx).rd
theorem RdRs.els {w : World} {v : Value} {L : List (List (Vc × Value))} (h : RdRs w v L) : ∃ E : List El, E.map Prod.snd = L ∧ Rd w v (E.map Prod.fst) ∧ ∀ x ∈ E, RdP w x.1 x.2 := by
  obtain ⟨sls, h1, h2, h3⟩ := h
  refine ⟨sls.zip L, ?_, ?_, fun x hx => ?_⟩
  · exact List.map_snd_zip (by omega)
  · have : (sls.zip L).map Prod.fst = sls := List.map_fst_zip (by omega)
    rw [this]
    exact h1
  · obtain ⟨i, hi⟩ := List.getElem?_of_mem hx
    rw [List.getElem?_zip_eq_some] at hi
    exact h3 i _ _ hi.1 hi.2
theorem own_type {K g sz n : Nat} {w : World} {E T : TypeId} {v : Value} {xs : List Value} {c : Array Value} {fz : Nat × Nat} (h : w.ownsRow K E sz v n xs) (hg : w.heap[g]? = some (.cells c T fz)) (hT : T ≠ E) : v.ownBlock ≠ some g := fun e => by
  rcases h.2 with ⟨rfl, _⟩ | ⟨g', cap, cur, rfl, _, hb, _⟩
  · cases e
  · cases e
    rw [hg] at hb
    simp only [Option.some.injEq, Obj.cells.injEq] at hb
    exact hT hb.2.1
theorem RdRA.agree {K g : Nat} {w w' : World} {v : Value} {l : List (Vc × Value)} {T : TypeId} {c : Array Value} {fz : Nat × Nat} (h : RdRA K w v l) (ha : Agree (fun b => b = g) w w') (hg : w.heap[g]? = some (.cells c T fz)) (h1 : T ≠ 36) (h2 : T ≠ 5) : RdRA K w' v l :=
  rdRA_of (ownsRow_agree h.2.2.1 ha fun i hi e => own_type h.2.2.1 hg h1 (by rw [hi, e])) fun t ht => ⟨ownsRow_agree (h.2.2.2 t ht) ha fun i hi e => own_type (h.2.2.2 t ht) hg h2 (by rw [hi, e]), (h.2.1 t ht).2⟩
theorem own_heap {K g n cap sz : Nat} {w : World} {E : TypeId} {xs : List Value} (h : w.ownsRow K E sz (.slice (some ⟨g, 0, none⟩) n cap) n xs) : ∃ c fz, w.heap[g]? = some (.cells c E fz) := by
  rcases h.2 with ⟨h0, _⟩ | ⟨g', cap', cur, hv, _, hb, _⟩
  · cases h0
  · simp only [Value.slice.injEq, Option.some.injEq, Addr.mk.injEq] at hv
    obtain ⟨⟨rfl, _⟩, _⟩ := hv
    exact ⟨_, _, hb⟩
/-- In another order. -/
theorem OwnD.sorted {K g n cap : Nat} {w w' : World} {E E' : List El} (h : OwnD K w (.slice (some ⟨g, 0, none⟩) n cap) E) (hn : E.length = n) (hE : E'.Perm E) (ha : Agree (fun b => b = g) w w') (ho : w'.ownsRow K 33 1 (.slice (some ⟨g, 0, none⟩) n cap) n (E'.map Prod.fst)) : OwnD K w' (.slice (some ⟨g, 0, none⟩) n cap) E' := by
  subst hn
  obtain ⟨c, fz, hg⟩ := own_heap h.1
  refine ⟨by rw [hE.length_eq]; exact ho, fun x hx => (h.2 x (hE.mem_iff.1 hx)).agree ha hg (by decide) (by decide)⟩
theorem OwnD.above {K K0 : Nat} {w w' : World} {v : Value} {E : List El} (h : OwnD K w v E) (ha : Above K w w') (hk : K0 ≤ K) : OwnD K0 w' v E :=
  ⟨own_above h.1 ha hk, fun x hx => (h.2 x hx).above ha hk⟩
theorem OwnD.kept {K : Nat} {w w' : World} {v : Value} {E : List El} (h : OwnD K w v E) (hb : Below w.heap.size w w') : OwnD K w' v E := h.above (above_below hb) (Nat.le_refl _)
theorem OwnD.nil (K : Nat) (w : World) : OwnD K w (.slice none 0 0) [] := ⟨World.ownsRow_nil .., fun x hx => by cases hx⟩
end Go.Proofs.Ytnfjdoeemnhkbaa
