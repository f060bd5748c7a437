/-
  Contracts of package txns: the book as a row of transactions.
-/
import Derived.Test.YtdelcaijehcaeaaRows
import Derived.Test.YtdelcaijehcaeaaWorld
import Derived.WalkSpells
import Derived.WalkLawsBesides
import Derived.BigQuiet
import Derived.IntWalk
import Derived.Lib.Hide
import Derived.OwnWalk
import Derived.Deep.RegionHeld3
import Derived.Deep.AppendLies
import Derived.Deep.RegionLaw
import Derived.BigRegion
import Derived.RegionTactic
import Derived.Shelf.Slices.Clone
import Derived.StillTactics
import Derived.Laws.Pointers
namespace Go.Proofs.Ytdelcaijehcaeaa
set_option linter.unusedVariables false
open Go.RowKit

theorem infoTx : (Try.prog.info? 47).map (fun i => (i.zero, i.size, i.bytes)) = some (some (.agg #[.int .i64 0, .int .i64 0, .int .i64 0, .int .i64 0]), 4, 32) := by kernel_rfl

/-- A transaction: its ID, state, begin and end. -/
structure Tx where
  i : Nat
  s : Nat
  b : Nat
  e : Nat

def Tx.cells (t : Tx) : List Value := [.int .i64 (t.i : Int), .int .i64 (t.s : Int), .int .i64 (t.b : Int), .int .i64 (t.e : Int)]

def flat : List Tx → List Value
  | [] => []
  | t :: r => t.cells ++ flat r

theorem flat_len (l : List Tx) : (flat l).length = l.length * 4 := by
  induction l with
  | nil => rfl
  | cons t r ih => rw [flat, List.length_append, ih, List.length_cons, Nat.succ_mul]; simp [Tx.cells]; omega

theorem flat_append (a b : List Tx) : flat (a ++ b) = flat a ++ flat b := by
  induction a with
  | nil => rfl
  | cons t r ih => rw [List.cons_append, flat, ih, flat, List.append_assoc]

theorem flat_at (l : List Tx) (k : Nat) (t : Tx) (hk : l[k]? = some t) (j : Nat) (hj : j < 4) : (flat l)[k * 4 + j]? = t.cells[j]? := by
  induction l generalizing k with
  | nil => cases hk
  | cons u r ih =>
    rw [flat]
    cases k with
    | zero =>
      have hu : u = t := by simpa using hk
      subst hu
      rw [Nat.zero_mul, Nat.zero_add, List.getElem?_append_left (by simp [Tx.cells]; omega)]
    | succ k =>
      have hl : u.cells.length = 4 := rfl
      rw [List.getElem?_append_right (by rw [hl, Nat.succ_mul]; omega), hl, Nat.succ_mul, show k * 4 + 4 + j - 4 = k * 4 + j from by omega]
      exact ih k (by simpa using hk)

theorem flat_set (l : List Tx) (k : Nat) (t t' : Tx) (hk : l[k]? = some t) (j : Nat) (hj : j < 4) (v : Value) (hv : t'.cells = t.cells.set j v) : (flat l).set (k * 4 + j) v = flat (l.set k t') := by
  induction l generalizing k with
  | nil => cases hk
  | cons u r ih =>
    cases k with
    | zero =>
      have hu : u = t := by simpa using hk
      subst hu
      rw [Nat.zero_mul, Nat.zero_add, flat, List.set_append_left _ _ (by simp [Tx.cells]; omega), ← hv]; rfl
    | succ k =>
      have hl : u.cells.length = 4 := rfl
      rw [flat, List.set_append_right _ _ (by rw [hl, Nat.succ_mul]; omega), hl, Nat.succ_mul, show k * 4 + 4 + j - 4 = k * 4 + j from by omega, ih k (by simpa using hk)]; rfl

/-- Block g is a book of the transactions l, at the time now; its row is one's own from block B on. -/
def IsBk (B : Nat) (w : World) (g now : Nat) (l : List Tx) : Prop :=
  B ≤ g ∧ B ≤ w.heap.size ∧ ∃ v, w.heap[g]? = some (.cells #[.int .i64 (now : Int), v] 53 (0, 0)) ∧ w.ownsRow B 47 4 v l.length (flat l) ∧ v.ownBlock ≠ some g

theorem bk_cells {w : World} {g : Nat} {x v : Value} (h : w.heap[g]? = some (.cells #[x, v] 53 (0, 0))) :
    w.cell? ⟨g, 0, none⟩ = some x ∧ w.cell? ⟨g, 1, none⟩ = some v ∧ w.frozen? ⟨g, 0, none⟩ = false ∧ w.frozen? ⟨g, 1, none⟩ = false :=
  ⟨by rw [cell_of_row w g 0 _ _ _ h]; rfl, by rw [cell_of_row w g 1 _ _ _ h]; rfl, frozen_of_row w g 0 _ _ h, frozen_of_row w g 1 _ _ h⟩

set_option maxHeartbeats 400000 in
theorem bknew_any (w : World) : Calls Try.prog 24 #[] w fun e w' => ∃ g, e = .returned (.pointer (some ⟨g, 0, none⟩)) ∧ IsBk w.heap.size w' g 1 [] ∧ Below w.heap.size w w' := by
  go_enter Try.func24, Try.ntmps24
  go_wp2
  go_ret
  exact ⟨w.heap.size, rfl, ⟨Nat.le_refl _, by simp, _, heap_alloc_new w _, ⟨rfl, .inl ⟨rfl, rfl⟩⟩, by simp [Value.ownBlock]⟩, below_alloc w _⟩

set_option maxHeartbeats 400000 in
theorem bknow_any (B g now : Nat) (l : List Tx) (w : World) (h : IsBk B w g now l) : Calls Try.prog 28 #[.pointer (some ⟨g, 0, none⟩)] w fun e w' => e = .returned (.int .i64 (now : Int)) ∧ w = w' := by
  obtain ⟨_, _, v, hg, _, _⟩ := h
  obtain ⟨c0, c1, f0, f1⟩ := bk_cells hg
  clear hg
  go_enter Try.func28, Try.ntmps28
  go_wp2
  go_ret
  exact ⟨rfl, rfl⟩

theorem own_base {w : World} {B : Nat} {E : TypeId} {size n : Nat} {v : Value} {xs : List Value} (h : w.ownsRow B E size v n xs) : ∀ k, v.ownBlock = some k → B ≤ k := by
  intro k hk
  rcases h.2 with ⟨rfl, _⟩ | ⟨g, cap, cur, rfl, hbg, _⟩
  · cases hk
  · have h2 : g = k := by simpa [Value.ownBlock] using hk
    omega

theorem bkbegin_end {B g now n gg cap cap1 : Nat} {l : List Tx} {w w1 : World} {ao : Option Addr} {o : Obj} {e : Ending} (hn : n = l.length) (hBg : B ≤ g) (hBw : B ≤ w.heap.size) (lg : g < w.heap.size)
    (hne : (Value.slice ao n cap).ownBlock ≠ some g) (hown : w.ownsRow B 47 4 (.slice ao n cap) n (flat l)) (hg : w.heap[g]? = some (.cells #[.int .i64 (now : Int), .slice ao n cap] 53 (0, 0)))
    (hown1 : w1.ownsRow B 47 4 (.slice (some ⟨gg, 0, none⟩) (n + 1) cap1) (n + 1) (flat l ++ [.int .i64 ((n : Int) + 1), .int .i64 1, .int .i64 (now : Int), .int .i64 0]))
    (hgrow : (w.alloc o).drew.grownBy w1 (Value.slice ao n cap).ownBlock) (hat : (Value.slice ao n cap).ownBlock = some gg ∨ gg = w.heap.size + 1) (he : e = .returned (.int .i64 ((n + 1 : Nat) : Int))) :
    e = .returned (.int .i64 ((n + 1 : Nat) : Int)) ∧ IsBk B (w1.setCell ⟨g, 1, none⟩ (.slice (some ⟨gg, 0, none⟩) (n + 1) cap1)) g now (l ++ [⟨n + 1, 1, now, 0⟩]) ∧ Below B w (w1.setCell ⟨g, 1, none⟩ (.slice (some ⟨gg, 0, none⟩) (n + 1) cap1)) := by
  have hsz : (w.alloc o).drew.heap.size = w.heap.size + 1 := by simp
  have hg1 : w1.heap[g]? = some (.cells #[.int .i64 (now : Int), .slice ao n cap] 53 (0, 0)) := (hgrow.block g (by rw [hsz]; omega) (Ne.symm hne)).trans ((heap_alloc_old w _ lg).trans hg)
  have hst := heap_setCell_same w1 g 1 _ _ (.slice (some ⟨gg, 0, none⟩) (n + 1) cap1) hg1
  have hgg : gg ≠ g := by
    rcases hat with h | h
    · intro h2; rw [h2] at h; exact hne h
    · omega
  have hbel : Below B w w1 := (((Below.refl B w).alloc hBw o).drew).grown hgrow (by rw [hsz]; omega) (own_base hown)
  refine ⟨he, ⟨hBg, ?_, _, hst, ?_, ?_⟩, hbel.setCell hBg _⟩
  · have := hbel.size; simp [World.setCell]; omega
  · have h1 := hown1.kept (grown_setCell w1 ⟨g, 1, none⟩ (.slice (some ⟨gg, 0, none⟩) (n + 1) cap1)) (.inr (by simp [Value.ownBlock]; exact hgg))
    have e1 : (l ++ [(⟨n + 1, 1, now, 0⟩ : Tx)]).length = n + 1 := by simp [hn]
    have e2 : flat (l ++ [⟨n + 1, 1, now, 0⟩]) = flat l ++ [.int .i64 ((n : Int) + 1), .int .i64 1, .int .i64 (now : Int), .int .i64 0] := by rw [flat_append]; rfl
    rw [e1, e2]; exact h1
  · simp [Value.ownBlock]; exact hgg

set_option maxRecDepth 100000 in
set_option maxHeartbeats 1000000 in
theorem bkbegin_any (B g now : Nat) (l : List Tx) (w : World) (h : IsBk B w g now l) (hl : l.length ≤ 1000000) :
    Calls Try.prog 25 #[.pointer (some ⟨g, 0, none⟩)] w fun e w' => e = .returned (.int .i64 ((l.length + 1 : Nat) : Int)) ∧ IsBk B w' g now (l ++ [⟨l.length + 1, 1, now, 0⟩]) ∧ Below B w w' := by
  obtain ⟨hBg, hBw, v, hg, hown, hne⟩ := h
  obtain ⟨c0, c1, f0, f1⟩ := bk_cells hg
  obtain ⟨n, hn⟩ : ∃ n, n = l.length := ⟨_, rfl⟩
  rw [← hn] at hown hl ⊢
  obtain ⟨ao, cap, hv⟩ := own_shape hown
  subst hv
  have lg := World.block_lt_of_cell? w _ c0
  have HN := Lib.hid hn
  have HG := Lib.hid hg
  clear hn hg
  obtain ⟨i0, hi0, hz0, hz1, hz2⟩ := info_parts infoTx
  go_enter Try.func25, Try.ntmps25
  go_wp2_with fail
  go_region_law
    ((refine step_append_lies _ (by rfl) _ _ _ (by rfl) B 47 i0 _ 4 32 Try.underlying44 hi0 hz0 hz1 hz2 rfl (by omega) (.slice ao n cap) n (flat l) (by rfl) ((hown.alloc _).drew)
        ⟨w.heap.size, 0, none⟩ 1 1 [.int .i64 ((n : Int) + 1), .int .i64 1, .int .i64 (now : Int), .int .i64 0] (by rfl) (by rfl) (World.news_of_block (cs := #[.int .i64 ((n : Int) + 1), .int .i64 1, .int .i64 (now : Int), .int .i64 0]) (t := 47) (fr := (0, 0)) (heap_alloc_new w _)) (by simp [Value.oneCell'])
        (by omega) (by unfold maxLen; omega) (by omega) (by simp; omega) (w.heap.size + 1) (by simp) ?_; intro gg cap1 w1 hown1 hgrow hat hlt; have hf1 : w1.frozen? ⟨g, 1, none⟩ = false := (World.frozen?_of_block (a := ⟨g, 1, none⟩) (hgrow.block g (by simp; omega) (Ne.symm hne))).trans ((frozen?_alloc_cells _ _ _ _).trans f1); have hcw : w1.cell? ⟨g, 1, none⟩ = some (.slice ao n cap) := (hgrow.cell_far ⟨g, 1, none⟩ (by simp; omega) (Ne.symm hne)).trans (Lib.cell?_alloc_some _ c1)))
  all_goals
    go_wp2
    go_ret
    exact bkbegin_end HN.out hBg hBw lg hne hown HG.out hown1 hgrow hat rfl

end Go.Proofs.Ytdelcaijehcaeaa
