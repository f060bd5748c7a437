/-
  A book, and a row of one's own beside it.
-/
import Derived.Test.YtdelcaijehcaeaaTxf
import Derived.Test.YtdelcaijehcaeaaTxe
namespace Go.Proofs.Ytdelcaijehcaeaa
set_option linter.unusedVariables false
open Go.RowKit

/-- A book of the transactions lb, and beside it a row of the transactions la. -/
def Two (B : Nat) (w : World) (g now : Nat) (lb la : List Tx) (va : Value) : Prop :=
  IsBk B w g now lb ∧ w.ownsRow B 47 4 va la.length (flat la) ∧ ∀ a, va.ownBlock = some a → Far w g a

theorem own_same {w w' : World} {B : Nat} {E : TypeId} {size n : Nat} {v : Value} {xs : List Value} (h : w.ownsRow B E size v n xs) (hs : ∀ a, v.ownBlock = some a → w'.heap[a]? = w.heap[a]?) : w'.ownsRow B E size v n xs := by
  refine ⟨h.1, ?_⟩
  rcases h.2 with h | ⟨g, cap, cur, hv, hb, hh, r⟩
  · exact .inl h
  · exact .inr ⟨g, cap, cur, hv, hb, (hs g (by rw [hv]; rfl)).trans hh, r⟩

theorem bk_lt {B g now : Nat} {l : List Tx} {w : World} (h : IsBk B w g now l) : g < w.heap.size := by
  obtain ⟨_, _, v, hg, _⟩ := h
  rcases Nat.lt_or_ge g w.heap.size with h | h
  · exact h
  · rw [Array.getElem?_eq_none h] at hg; cases hg

theorem far_same {w w' : World} {g a : Nat} (h : Far w g a) (hs : w.heap.size ≤ w'.heap.size) (hg : w'.heap[g]? = w.heap[g]?) : Far w' g a :=
  ⟨Nat.lt_of_lt_of_le h.1 hs, h.2.1, fun x v hx => h.2.2 x v (hg ▸ hx)⟩

theorem two_calls {B g now now' : Nat} {lb lb' la : List Tx} {va : Value} {w w' : World} (h : Two B w g now lb la va) (hi : IsBk B w' g now' lb') (hf : ∀ a, Far w g a → w'.heap[a]? = w.heap[a]? ∧ Far w' g a) : Two B w' g now' lb' la va :=
  ⟨hi, own_same h.2.1 fun a ha => (hf a (h.2.2 a ha)).1, fun a ha => (hf a (h.2.2 a ha)).2⟩

theorem two_below {B g now : Nat} {lb la : List Tx} {va : Value} {w w' : World} (h : Two B w g now lb la va) (hb : Below w.heap.size w w') : Two B w' g now lb la va :=
  ⟨h.1.kept hb, own_same h.2.1 fun a ha => hb.block a (h.2.2 a ha).1, fun a ha => far_same (h.2.2 a ha) hb.size (hb.block g (bk_lt h.1))⟩

/-- What is written far from the book leaves it. -/
theorem bk_grown {B g now : Nat} {l : List Tx} {w w' : World} {row : Option Nat} (h : IsBk B w g now l) (hg : w.grownBy w' row) (hr : ∀ a, row = some a → Far w g a) : IsBk B w' g now l := by
  have lg := bk_lt h
  obtain ⟨hBg, hBw, v, hgg, hown, hne⟩ := h
  refine ⟨hBg, Nat.le_trans hBw hg.size, v, (hg.block g lg (by
    intro he
    exact (hr g he.symm).2.1 rfl)).trans hgg, own_same hown fun a ha => ?_, hne⟩
  have la : a < w.heap.size := by
    rcases hown.2 with ⟨h1, _⟩ | ⟨g', cap, cur, h1, _, hh, _⟩
    · rw [h1] at ha; cases ha
    · rw [h1] at ha
      simp only [Value.ownBlock, Option.some.injEq] at ha
      subst ha
      rcases Nat.lt_or_ge g' w.heap.size with h | h
      · exact h
      · rw [Array.getElem?_eq_none h] at hh; cases hh
  exact hg.block a la (by
    intro he
    exact (hr a he.symm).2.2 _ _ hgg ha)

theorem two_set {B g now K j a n cap : Nat} {lb la : List Tx} {t t' : Tx} {v : Value} {w : World} (h : Two B w g now lb la (.slice (some ⟨a, 0, none⟩) n cap)) (hk : la[K]? = some t) (hj : j < 4) (ht : t'.cells = t.cells.set j v) :
    Two B (w.setCell ⟨a, K * 4 + j, none⟩ v) g now lb (la.set K t') (.slice (some ⟨a, 0, none⟩) n cap) ∧ Below B w (w.setCell ⟨a, K * 4 + j, none⟩ v) := by
  have hn : n = la.length := by
    rcases h.2.1.2 with ⟨h, _⟩ | ⟨g', cap', cur, h, _⟩
    · cases h
    · simp only [Value.slice.injEq] at h; exact h.2.1
  subst hn
  have hfa := h.2.2 a rfl
  have hB := own_base h.2.1 a rfl
  have hgr := grown_setCell w ⟨a, K * 4 + j, none⟩ v
  have hg : (w.setCell ⟨a, K * 4 + j, none⟩ v).heap[g]? = w.heap[g]? := heap_setCell_other w ⟨a, K * 4 + j, none⟩ g v (fun h => hfa.2.1 h.symm)
  refine ⟨⟨bk_grown h.1 hgr (fun b hb => by cases hb; exact hfa), ?_, fun b hb => ?_⟩, (Below.refl B w).setCell hB v⟩
  · rw [List.length_set, ← flat_set la K t t' hk j hj v ht]
    exact (h.2.1.stored (K * 4 + j) v).1
  · exact far_same (h.2.2 b hb) (by rw [size_setCell]; exact Nat.le_refl _) hg

theorem two_append {B g now n gg cap : Nat} {lb la : List Tx} {t : Tx} {va : Value} {w w2 : World} {o : Obj} (h : Two B w g now lb la va) (hn : n = la.length)
    (hown : w2.ownsRow B 47 4 (.slice (some ⟨gg, 0, none⟩) (n + 1) cap) (n + 1) (flat la ++ t.cells)) (hgrow : (w.alloc o).grownBy w2 va.ownBlock) (hat : va.ownBlock = some gg ∨ gg = w.heap.size + 1) (hlt : gg < w2.heap.size) :
    Two B w2 g now lb (la ++ [t]) (.slice (some ⟨gg, 0, none⟩) (n + 1) cap) ∧ Below B w w2 := by
  have h1 := two_below h (below_alloc w o)
  have lg := bk_lt h.1
  have hBw : B ≤ w.heap.size := h.1.2.1
  have hsz : (w.alloc o).heap.size = w.heap.size + 1 := by simp
  have hg : w2.heap[g]? = w.heap[g]? := (hgrow.block g (by rw [hsz]; omega) (by
    intro he
    exact (h.2.2 g he.symm).2.1 rfl)).trans (heap_alloc_old w _ lg)
  refine ⟨⟨bk_grown h1.1 hgrow h1.2.2, ?_, fun a ha => ?_⟩, ((Below.refl B w).alloc hBw o).grown hgrow (by rw [hsz]; omega) (own_base h.2.1)⟩
  · have e1 : (la ++ [t]).length = n + 1 := by simp [hn]
    have e2 : flat (la ++ [t]) = flat la ++ t.cells := by rw [flat_append]; simp [flat]
    rw [e1, e2]; exact hown
  · simp only [Value.ownBlock, Option.some.injEq] at ha
    subst ha
    rcases hat with h4 | h4
    · exact far_same (h.2.2 gg h4) (Nat.le_trans (by rw [hsz]; omega) hgrow.size) hg
    · refine ⟨hlt, by omega, fun x v hx => ?_⟩
      rw [hg] at hx
      obtain ⟨_, _, v0, hg0, hown0, _⟩ := h.1
      rw [hg0] at hx
      have hv : v = v0 := by
        simp only [Option.some.injEq, Obj.cells.injEq] at hx
        have := hx.1
        simp at this
        exact this.2.symm
      rw [hv]
      intro h5
      rcases hown0.2 with ⟨h6, _⟩ | ⟨g', cap', cur, h6, _, hh, _⟩
      · rw [h6] at h5; cases h5
      · rw [h6] at h5
        simp only [Value.ownBlock, Option.some.injEq] at h5
        subst h5
        rw [Array.getElem?_eq_none (by omega)] at hh
        cases hh

/-- A new block is far from a book. -/
theorem far_new {B g now : Nat} {l : List Tx} {w : World} {o : Obj} (h : IsBk B w g now l) : Far (w.alloc o) g w.heap.size := by
  have lg := bk_lt h
  obtain ⟨_, _, v0, hg0, hown0, _⟩ := h
  refine ⟨by simp, by omega, fun x v hx => ?_⟩
  rw [heap_alloc_old w _ lg, hg0] at hx
  have hv : v = v0 := by
    simp only [Option.some.injEq, Obj.cells.injEq] at hx
    have := hx.1
    simp at this
    exact this.2.symm
  rw [hv]
  intro h5
  rcases hown0.2 with ⟨h6, _⟩ | ⟨g', cap', cur, h6, _, hh, _⟩
  · rw [h6] at h5; cases h5
  · rw [h6] at h5
    simp only [Value.ownBlock, Option.some.injEq] at h5
    subst h5
    rw [Array.getElem?_eq_none (Nat.le_refl _)] at hh
    cases hh

/-- What is written to a block that is neither the book's nor the row's leaves both. -/
theorem two_other {B g now X : Nat} {lb la : List Tx} {va : Value} {w w' : World} (h : Two B w g now lb la va) (hX : Far w g X) (hn : va.ownBlock ≠ some X) (hg : w.grownBy w' (some X)) : Two B w' g now lb la va ∧ Far w' g X := by
  have hgg : w'.heap[g]? = w.heap[g]? := hg.block g (bk_lt h.1) (by
    intro he
    simp only [Option.some.injEq] at he
    exact hX.2.1 he.symm)
  refine ⟨⟨bk_grown h.1 hg (fun a ha => by cases ha; exact hX), own_same h.2.1 fun a ha => hg.block a (h.2.2 a ha).1 ?_, fun a ha => far_same (h.2.2 a ha) hg.size hgg⟩, far_same hX hg.size hgg⟩
  intro he
  simp only [Option.some.injEq] at he
  exact hn (he ▸ ha)

/-- Four cells of a block, written one behind the other. -/
theorem four_sets {w : World} {X : Nat} {a b c d a' b' c' d' : Value} {T : TypeId} (h : w.heap[X]? = some (.cells #[a, b, c, d] T (0, 0))) :
    ((((w.setCell ⟨X, 0, none⟩ a').setCell ⟨X, 1, none⟩ b').setCell ⟨X, 2, none⟩ c').setCell ⟨X, 3, none⟩ d').cell? ⟨X, 1, none⟩ = some b' ∧
    w.grownBy ((((w.setCell ⟨X, 0, none⟩ a').setCell ⟨X, 1, none⟩ b').setCell ⟨X, 2, none⟩ c').setCell ⟨X, 3, none⟩ d') (some X) := by
  have h0 := heap_setCell_same w X 0 _ _ a' h
  have h1 := heap_setCell_same (w.setCell ⟨X, 0, none⟩ a') X 1 _ _ b' h0
  have h2 := heap_setCell_same _ X 2 _ _ c' h1
  have h3 := heap_setCell_same _ X 3 _ _ d' h2
  refine ⟨?_, grown_trans (grown_trans (grown_trans (grown_setCell _ _ _) (grown_setCell _ _ _)) (grown_setCell _ _ _)) (grown_setCell _ _ _)⟩
  rw [cell_of_row _ X 1 _ _ _ h3]
  simp

end Go.Proofs.Ytdelcaijehcaeaa
