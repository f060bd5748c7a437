import Derived.Test.YtnfjdoeemnhkbaaFrow
import Derived.Test.YtnfjdoeemnhkbaaZof2
set_option linter.unusedVariables false
set_option linter.unusedSimpArgs false
namespace Go.Proofs.Ytnfjdoeemnhkbaa
open Go.RowKit
abbrev El := Value × List (Vc × Value)
def El.row (x : El) : List Vc := x.2.map Prod.fst
def OwnD (K : Nat) (w : World) (v : Value) (E : List El) : Prop :=
 w.ownsRow K 33 1 v E.length (E.map Prod.fst) ∧ ∀ x ∈ E, RdRA K w x.1 x.2
theorem zGz {K g sz n : Nat} {w : World} {E T : TypeId} {v : Value} {xs : List Value} {c : Array Value} {fz : Nat × Nat} (h : w.ownsRow K E sz v n xs) (hg : w.heap[g]? = some (.cells c T fz)) (hT : T ≠ E) : v.ownBlock ≠ some g := fun e => by
 rcases h.2 with ⟨rfl, _⟩ | ⟨g', cap, cur, rfl, _, hb, _⟩
 ·cases e
 ·cases e
  rw [hg] at hb
  simp only [Option.some.injEq, Obj.cells.injEq] at hb
  exact hT hb.2.1
theorem RdRA.agree {K g : Nat} {w w' : World} {v : Value} {l : List (Vc × Value)} {T : TypeId} {c : Array Value} {fz : Nat × Nat} (h : RdRA K w v l) (ha : Agree (fun b => b = g) w w') (hg : w.heap[g]? = some (.cells c T fz)) (h1 : T ≠ 36) (h2 : T ≠ 5) : RdRA K w' v l :=
 zEt (zAj h.2.2.1 ha fun i hi e => zGz h.2.2.1 hg h1 (by rw [hi, e])) fun t ht => ⟨zAj (h.2.2.2 t ht) ha fun i hi e => zGz (h.2.2.2 t ht) hg h2 (by rw [hi, e]), (h.2.1 t ht).2⟩
theorem zI5 {K g n cap sz : Nat} {w : World} {E : TypeId} {xs : List Value} (h : w.ownsRow K E sz (.slice (some ⟨g, 0, none⟩) n cap) n xs) : ∃ c fz, w.heap[g]? = some (.cells c E fz) := by
 rcases h.2 with ⟨h0, _⟩ | ⟨g', cap', cur, hv, _, hb, _⟩
 ·cases h0
 ·simp only [Value.slice.injEq, Option.some.injEq, Addr.mk.injEq] at hv
  obtain ⟨⟨rfl, _⟩, _⟩ := hv
  exact ⟨_, _, hb⟩
theorem OwnD.sorted {K g n cap : Nat} {w w' : World} {E E' : List El} (h : OwnD K w (.slice (some ⟨g, 0, none⟩) n cap) E) (hn : E.length = n) (hE : E'.Perm E) (ha : Agree (fun b => b = g) w w') (ho : w'.ownsRow K 33 1 (.slice (some ⟨g, 0, none⟩) n cap) n (E'.map Prod.fst)) : OwnD K w' (.slice (some ⟨g, 0, none⟩) n cap) E' := by
 subst hn
 obtain ⟨c, fz, hg⟩ := zI5 h.1
 refine ⟨by rw [hE.length_eq]; exact ho, fun x hx => (h.2 x (hE.mem_iff.1 hx)).agree ha hg (by decide) (by decide)⟩
theorem OwnD.above {K K0 : Nat} {w w' : World} {v : Value} {E : List El} (h : OwnD K w v E) (ha : Above K w w') (hk : K0 <= K) : OwnD K0 w' v E :=
 ⟨zAf h.1 ha hk, fun x hx => (h.2 x hx).above ha hk⟩
theorem OwnD.kept {K : Nat} {w w' : World} {v : Value} {E : List El} (h : OwnD K w v E) (hb : Below w.heap.size w w') : OwnD K w' v E := h.above (zAc hb) (Nat.le_refl _)
theorem OwnD.nil (K : Nat) (w : World) : OwnD K w (.slice none 0 0) [] := ⟨World.ownsRow_nil .., fun x hx => by cases hx⟩
end Go.Proofs.Ytnfjdoeemnhkbaa
