/-
  Contracts of null's Count, numbers, all.
-/
import Derived.Test.YteloepccjoikdaaNullm
import Derived.Test.YteloepccjoikdaaUnpack
namespace Go.Proofs.Yteloepccjoikdaa
set_option linter.unusedVariables false
open Go.RowKit

theorem rdb_cells {w : World} {ao : Option Addr} {len cap : Nat} {bs : List Bool} (h : Rd w (.slice ao len cap) (bs.map boolv)) :
    len = bs.length ∧ (0 < len → ∃ b off, ao = some ⟨b, off, none⟩ ∧ ∀ i, i < len → w.cell? ⟨b, off + i, none⟩ = some (.bool (bs.getD i false))) := by
  obtain ⟨ao', cap', hv, _, hc⟩ := h
  simp only [List.length_map, Value.slice.injEq] at hv hc
  obtain ⟨rfl, hl, rfl⟩ := hv
  refine ⟨hl, fun hp => ?_⟩
  obtain ⟨b, off, ha, hcell⟩ := hc (by omega)
  refine ⟨b, off, ha, fun i hi => ?_⟩
  have := hcell i (by omega)
  rw [this, List.getD_eq_getElem?_getD, List.getElem?_map, List.getD_eq_getElem?_getD, List.getElem?_eq_getElem (show i < bs.length by omega)]
  rfl

theorem infob : (Try.prog.info? 4).map (fun i => (i.zero, i.size, i.bytes)) = some (some (.bool false), 1, 1) := by kernel_rfl

theorem madeb (n : Nat) : (madeCells (Value.bool false).cells (n * 1)).toList = (List.replicate n false).map boolv := by
  simp [madeCells, Value.cells, boolv, Nat.mul_one]
  rw [List.eq_replicate_iff]
  refine ⟨by simp, fun b hb => ?_⟩
  simp only [List.mem_map, List.mem_range] at hb
  obtain ⟨j, _, rfl⟩ := hb
  rw [Nat.mod_one]; rfl

/-- The first k of them are set. -/
def setTo {α : Type} (xs zs : List α) (k : Nat) : List α := xs.take k ++ zs.drop k

theorem setTo_step {α : Type} (xs zs : List α) (k : Nat) (x : α) (hx : xs[k]? = some x) (hz : k < zs.length) : (setTo xs zs k).set k x = setTo xs zs (k + 1) := by
  have hk : k < xs.length := (List.getElem?_eq_some_iff.1 hx).1
  unfold setTo
  rw [List.set_append_right _ _ (by rw [List.length_take]; omega), List.length_take, Nat.min_eq_left (by omega), Nat.sub_self, List.take_add_one, hx]
  rw [List.drop_eq_getElem_cons hz, List.set_cons_zero]
  simp

theorem setTo_keep {α : Type} (xs zs : List α) (k : Nat) (x : α) (hx : xs[k]? = some x) (hz : zs[k]? = some x) : setTo xs zs (k + 1) = setTo xs zs k := by
  have hk : k < zs.length := (List.getElem?_eq_some_iff.1 hz).1
  unfold setTo
  rw [List.take_add_one, hx, List.drop_eq_getElem_cons hk]
  rw [List.getElem?_eq_getElem hk] at hz
  simp only [Option.some.injEq] at hz
  rw [hz]
  simp

theorem setTo_length {α : Type} (xs zs : List α) (k : Nat) (h : xs.length = zs.length) (hk : k ≤ xs.length) : (setTo xs zs k).length = xs.length := by
  unfold setTo; rw [List.length_append, List.length_take, List.length_drop]; omega

end Go.Proofs.Yteloepccjoikdaa
