/-
  Contract of zone.widened.
-/
import Derived.Test.YtnfjdoeemnhkbaaFrAp
import Derived.Test.YtnfjdoeemnhkbaaReve
import Derived.Deep.CutBlock
import Derived.Deep.DeepCutAuto
namespace Go.Proofs.Ytnfjdoeemnhkbaa
set_option linter.unusedVariables false
set_option linter.unusedSimpArgs false
open Go.RowKit

/-- From where to where, as it lies: how many nulls, the least, the greatest. -/
structure Zv where
  n : Int
  lo : Vc × Value
  hi : Vc × Value
def cellsZ (z : Zv) : List Value := .int .i64 z.n :: (cellsV z.lo ++ cellsV z.hi)
def OkZ (w : World) (z : Zv) : Prop := OkV w z.lo ∧ OkV w z.hi
theorem OkZ.kept {w w' : World} {z : Zv} (h : OkZ w z) (hb : Below w.heap.size w w') : OkZ w' z := ⟨h.1.kept hb, h.2.kept hb⟩
def loW (lo v : Vc × Value) : Vc × Value := if lo.1.u = true ∨ cmpT v.1 lo.1 < 0 then v else lo
def hiW (hi v : Vc × Value) : Vc × Value := if hi.1.u = true ∨ 0 < cmpT v.1 hi.1 then v else hi
def widen (z : Zv) (v : Vc × Value) : Zv := if v.1.u = true then ⟨z.n + 1, z.lo, z.hi⟩ else ⟨z.n, loW z.lo v, hiW z.hi v⟩
theorem widen_ok {w : World} {z : Zv} {v : Vc × Value} (h : OkZ w z) (k : OkV w v) : OkZ w (widen z v) := by
  unfold widen
  split
  · exact h
  · refine ⟨?_, ?_⟩
    · show OkV w (loW z.lo v)
      unfold loW
      split
      · exact k
      · exact h.1
    · show OkV w (hiW z.hi v)
      unfold hiW
      split
      · exact k
      · exact h.2

/-- Four cells of a row of nine, written. -/
theorem four_lo {w : World} {X : Nat} {a0 a1 a2 a3 a4 a5 a6 a7 a8 b1 b2 b3 b4 : Value} {T : TypeId} (h : w.heap[X]? = some (.cells #[a0, a1, a2, a3, a4, a5, a6, a7, a8] T (0, 0))) :
    ((((w.setCell ⟨X, 1, none⟩ b1).setCell ⟨X, 2, none⟩ b2).setCell ⟨X, 3, none⟩ b3).setCell ⟨X, 4, none⟩ b4).heap[X]? = some (.cells #[a0, b1, b2, b3, b4, a5, a6, a7, a8] T (0, 0)) := by
  have h1 := heap_setCell_same w X 1 _ _ b1 h
  have h2 := heap_setCell_same _ X 2 _ _ b2 h1
  have h3 := heap_setCell_same _ X 3 _ _ b3 h2
  have h4 := heap_setCell_same _ X 4 _ _ b4 h3
  rw [h4]
  simp
theorem four_hi {w : World} {X : Nat} {a0 a1 a2 a3 a4 a5 a6 a7 a8 b5 b6 b7 b8 : Value} {T : TypeId} (h : w.heap[X]? = some (.cells #[a0, a1, a2, a3, a4, a5, a6, a7, a8] T (0, 0))) :
    ((((w.setCell ⟨X, 5, none⟩ b5).setCell ⟨X, 6, none⟩ b6).setCell ⟨X, 7, none⟩ b7).setCell ⟨X, 8, none⟩ b8).heap[X]? = some (.cells #[a0, a1, a2, a3, a4, b5, b6, b7, b8] T (0, 0)) := by
  have h1 := heap_setCell_same w X 5 _ _ b5 h
  have h2 := heap_setCell_same _ X 6 _ _ b6 h1
  have h3 := heap_setCell_same _ X 7 _ _ b7 h2
  have h4 := heap_setCell_same _ X 8 _ _ b8 h3
  rw [h4]
  simp
theorem nine_heap {w : World} {X : Nat} {a0 a1 a2 a3 a4 a5 a6 a7 a8 b0 b1 b2 b3 b4 b5 b6 b7 b8 : Value} {T : TypeId} (h : w.heap[X]? = some (.cells #[a0, a1, a2, a3, a4, a5, a6, a7, a8] T (0, 0))) :
    (((((((((w.setCell ⟨X, 0, none⟩ b0).setCell ⟨X, 1, none⟩ b1).setCell ⟨X, 2, none⟩ b2).setCell ⟨X, 3, none⟩ b3).setCell ⟨X, 4, none⟩ b4).setCell ⟨X, 5, none⟩ b5).setCell ⟨X, 6, none⟩ b6).setCell ⟨X, 7, none⟩ b7).setCell ⟨X, 8, none⟩ b8).heap[X]? = some (.cells #[b0, b1, b2, b3, b4, b5, b6, b7, b8] T (0, 0)) := by
  have h0 := heap_setCell_same w X 0 _ _ b0 h
  have h1 := four_lo (b1 := b1) (b2 := b2) (b3 := b3) (b4 := b4) (show (w.setCell ⟨X, 0, none⟩ b0).heap[X]? = some (.cells #[b0, a1, a2, a3, a4, a5, a6, a7, a8] T (0, 0)) by rw [h0]; simp)
  exact four_hi h1
theorem sets4 {w wx : World} {B X : Nat} (h : Below B w wx) (hx : B ≤ X) (i j k l : Nat) (a b c d : Value) : Below B w ((((wx.setCell ⟨X, i, none⟩ a).setCell ⟨X, j, none⟩ b).setCell ⟨X, k, none⟩ c).setCell ⟨X, l, none⟩ d) :=
  (((h.setCell (p := ⟨X, i, none⟩) hx a).setCell (p := ⟨X, j, none⟩) hx b).setCell (p := ⟨X, k, none⟩) hx c).setCell (p := ⟨X, l, none⟩) hx d
theorem set_far (w : World) (X Y i j k l : Nat) (a b c d : Value) (h : Y ≠ X) : ((((w.setCell ⟨X, i, none⟩ a).setCell ⟨X, j, none⟩ b).setCell ⟨X, k, none⟩ c).setCell ⟨X, l, none⟩ d).heap[Y]? = w.heap[Y]? := by
  rw [heap_setCell_other _ _ _ _ h, heap_setCell_other _ _ _ _ h, heap_setCell_other _ _ _ _ h, heap_setCell_other _ _ _ _ h]

end Go.Proofs.Ytnfjdoeemnhkbaa
