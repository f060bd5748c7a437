/-
  What the document fixes of layer 2, walked.
-/
import Derived.Test.YteloepccjoikdaaReadg
import Derived.Test.YteloepccjoikdaaZig
import Derived.Test.YteloepccjoikdaaWidth
import Derived.Test.YteloepccjoikdaaLone
import Derived.Lib.SlBytesConst
namespace Go.Proofs.Yteloepccjoikdaa
set_option linter.unusedVariables false
open Go.RowKit

theorem lt256b (l : List Nat) (h : ∀ x ∈ l, x < 256) (i : Nat) : l.getD i 0 < 256 := by
  rw [List.getD_eq_getElem?_getD]
  by_cases hi : i < l.length
  · rw [List.getElem?_eq_getElem hi]; exact h _ (List.getElem_mem hi)
  · rw [List.getElem?_eq_none (by omega)]; decide

theorem rd_mark (w : World) (cs : Array Value) (E : TypeId) (fr : Nat × Nat) (n : Nat) (xs : List Value) (hs : cs.toList = xs) (hn : n = xs.length) : Rd (w.alloc (.cells cs E fr)) (.slice (some ⟨w.heap.size, 0, none⟩) n n) xs := by
  subst hs hn
  refine ⟨_, cs.toList.length, rfl, ⟨(fun h => by cases h), Nat.le_refl _⟩, fun hp => ⟨w.heap.size, 0, rfl, fun i hi => ?_⟩⟩
  rw [Nat.zero_add, World.cell?_alloc_mark, List.getD_eq_getElem?_getD, List.getElem?_eq_getElem hi]
  simp at hi
  simp [hi]

theorem rd_grown {w w' : World} {v : Value} {xs : List Value} {r : Nat} (h : Rd w v xs) (hg : w.grownBy w' (some r)) (hne : v.ownBlock ≠ some r) : Rd w' v xs := by
  obtain ⟨ao, cap, hv, hcap, hc⟩ := h
  refine ⟨ao, cap, hv, hcap, fun hp => ?_⟩
  obtain ⟨b, off, ha, hcell⟩ := hc hp
  refine ⟨b, off, ha, fun i hi => ?_⟩
  refine hg.cell (hcell i hi) ?_
  rw [hv, ha] at hne
  exact hne

theorem own_ne {w : World} {B r : Nat} {E : TypeId} {size n : Nat} {v : Value} {xs : List Value} (h : w.ownsRow B E size v n xs) (hr : r < B) : v.ownBlock ≠ some r := by
  rcases h.2 with ⟨rfl, _⟩ | ⟨g, cap, cur, rfl, hbg, _⟩
  · intro h; cases h
  · intro h
    have h2 : g = r := by simpa [Value.ownBlock] using h
    omega

theorem rd_str {ao : Option Addr} {cap : Nat} {w : World} {B : Nat} {E : TypeId} {bs : List Nat} (h : w.ownsRow B E 1 (.slice ao (bs.map u8v).length cap) (bs.map u8v).length (bs.map u8v)) : Rd w (.slice ao bs.length cap) (bs.map u8v) := rd_own_map h

end Go.Proofs.Yteloepccjoikdaa
