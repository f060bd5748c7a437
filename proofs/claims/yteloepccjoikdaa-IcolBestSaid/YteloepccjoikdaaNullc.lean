/-
  Contract of null's decodeMixed.
-/
import Derived.Test.YteloepccjoikdaaNullb
import Derived.OwnWalk
import Derived.BigRegion
namespace Go.Proofs.Yteloepccjoikdaa
set_option linter.unusedVariables false
open Go.RowKit

/-- The call hands back bools and what stands behind them, or none. -/
def RetDec (o : Option (List Bool × List Nat)) (w : World) (e : Ending) (w' : World) : Prop :=
  (o = none ∧ e = .returned (.tuple #[.slice none 0 0, .slice none 0 0, .bool false]) ∧ Below w.heap.size w w') ∨
  ∃ l r ao len cap ao2 len2 cap2, o = some (l, r) ∧ e = .returned (.tuple #[.slice ao len cap, .slice ao2 len2 cap2, .bool true]) ∧ Rd w' (.slice ao len cap) (l.map boolv) ∧ Rd w' (.slice ao2 len2 cap2) (r.map u8v) ∧ Below w.heap.size w w'

/-- What stands behind the first q. -/
theorem rd_behind {w : World} {ao : Option Addr} {len cap q : Nat} {xs : List Value} (h : Rd w (.slice ao len cap) xs) (hq : q ≤ len) :
    Rd w (.slice (if cap = q then ao else Option.map (fun x => x.add q) ao) (len - q) (cap - q)) (xs.drop q) := by
  have hcl := rd_cap h
  by_cases hc : cap = q
  · rw [if_pos hc]
    have hl : len = q := by omega
    obtain ⟨ao', cap', hv, _, _⟩ := h
    simp only [Value.slice.injEq] at hv
    have hd : xs.drop q = [] := List.drop_of_length_le (by omega)
    rw [hd, show len - q = 0 by omega, show cap - q = 0 by omega]
    exact ⟨ao, 0, rfl, ⟨fun _ => rfl, by simp⟩, fun hp => by simp at hp⟩
  · rw [if_neg hc]
    have h' := h
    obtain ⟨ao', cap', hv, hcap, hcell⟩ := h
    simp only [Value.slice.injEq] at hv
    obtain ⟨rfl, hl, rfl⟩ := hv
    rcases ao with _ | a
    · have := hcap.1 rfl; omega
    · have hl2 : (xs.drop q).length = len - q := by rw [List.length_drop, hl]
      refine ⟨_, _, by rw [hl2], ⟨(fun h => by cases h), by rw [hl2]; omega⟩, fun hp => ?_⟩
      rw [hl2] at hp
      obtain ⟨b, off, ha, _⟩ := hcell (by omega)
      cases ha
      have h2 := rd_drop h' hq
      obtain ⟨a2, c2, hv2, _, hc2⟩ := h2
      simp only [Value.slice.injEq] at hv2
      obtain ⟨rfl, _, _⟩ := hv2
      obtain ⟨b2, off2, ha2, hc3⟩ := hc2 (by rw [hl2]; exact hp)
      cases ha2
      exact ⟨b, off + q, by simp [Addr.add], hc3⟩

theorem rd_drewN {w : World} {v : Value} {xs : List Value} (h : Rd w v xs) (k : Nat) : Rd (w.drewN k) v xs := h

end Go.Proofs.Yteloepccjoikdaa
