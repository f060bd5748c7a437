/-
  Contract of zone.Of.
-/
import Derived.Test.YtnfjdoeemnhkbaaZof
import Derived.Test.YtnfjdoeemnhkbaaLseven
namespace Go.Proofs.Ytnfjdoeemnhkbaa
set_option linter.unusedVariables false
set_option linter.unusedSimpArgs false
open Go.RowKit

/-- Nine cells of a row written. -/
def set9 (xs : List Value) (m : Nat) (v0 v1 v2 v3 v4 v5 v6 v7 v8 : Value) : List Value := (set8 xs m v0 v1 v2 v3 v4 v5 v6 v7).set (m + 8) v8
theorem set9_take (xs : List Value) (m : Nat) (h : m + 9 ≤ xs.length) (v0 v1 v2 v3 v4 v5 v6 v7 v8 : Value) : (set9 xs m v0 v1 v2 v3 v4 v5 v6 v7 v8).take (m + 9) = xs.take m ++ [v0, v1, v2, v3, v4, v5, v6, v7, v8] := by
  unfold set9
  have h8 := set8_take xs m (by omega) v0 v1 v2 v3 v4 v5 v6 v7
  have hl : (set8 xs m v0 v1 v2 v3 v4 v5 v6 v7).length = xs.length := set8_len xs m _ _ _ _ _ _ _ _
  rw [List.take_succ_eq_append_getElem (i := m + 8) (by rw [List.length_set, hl]; omega), List.getElem_set_self, List.take_set_of_le (by omega), h8]
  simp
theorem set9_len (xs : List Value) (m : Nat) (v0 v1 v2 v3 v4 v5 v6 v7 v8 : Value) : (set9 xs m v0 v1 v2 v3 v4 v5 v6 v7 v8).length = xs.length := by simp [set9, set8_len]

/-- A zone of one's own. -/
def OkZA (K : Nat) (w : World) (z : Zv) : Prop := (RdB K w z.lo.2 z.lo.1.b ∧ ∀ x ∈ z.lo.1.b, x < 256) ∧ (RdB K w z.hi.2 z.hi.1.b ∧ ∀ x ∈ z.hi.1.b, x < 256)
theorem OkZA.above {K K0 : Nat} {w w' : World} {z : Zv} (h : OkZA K w z) (ha : Above K w w') (hk : K0 ≤ K) : OkZA K0 w' z := ⟨⟨h.1.1.above ha hk, h.1.2⟩, ⟨h.2.1.above ha hk, h.2.2⟩⟩
theorem OkZA.ok {K : Nat} {w : World} {z : Zv} (h : OkZA K w z) : OkZ w z := ⟨⟨h.1.1.rd (Above.refl _ _), h.1.2⟩, ⟨h.2.1.rd (Above.refl _ _), h.2.2⟩⟩
/-- v is a slice of zones, one's own, that are these. -/
def RdZA (K : Nat) (w : World) (v : Value) (zs : List Zv) : Prop := RdSK K w 9 v (zs.map cellsZ) ∧ ∀ z ∈ zs, OkZA K w z
/-- v is a slice of zones that are these. -/
def RdZ (w : World) (v : Value) (ts : List Zt) : Prop := ∃ zs : List Zv, zs.map Zv.t = ts ∧ RdS w 9 v (zs.map cellsZ) ∧ ∀ z ∈ zs, OkZ w z
theorem RdZA.rd {K : Nat} {w : World} {v : Value} {zs : List Zv} (h : RdZA K w v zs) : RdZ w v (zs.map Zv.t) := ⟨zs, rfl, h.1.rd, fun z hz => (h.2 z hz).ok⟩
theorem RdZ.kept {w w' : World} {v : Value} {ts : List Zt} (h : RdZ w v ts) (hb : Below w.heap.size w w') : RdZ w' v ts := by
  obtain ⟨zs, h1, h2, h3⟩ := h
  exact ⟨zs, h1, h2.kept hb, fun z hz => (h3 z hz).kept hb⟩
/-- The zones of rows. -/
def zonesT (cols : List Co) (rows : List (List Vc)) : List Zt := cols.mapIdx fun i c => zoneT c.k i rows

theorem cellsZ_len (z : Zv) : (cellsZ z).length = 9 := rfl

end Go.Proofs.Ytnfjdoeemnhkbaa
