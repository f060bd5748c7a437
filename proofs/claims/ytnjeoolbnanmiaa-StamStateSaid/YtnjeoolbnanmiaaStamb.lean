/-
  Contracts of stam's said, saidOfEnd, isOf, isNever.
-/
import Derived.Test.YtnjeoolbnanmiaaStam
import Derived.Deep.DeepCutAuto
namespace Go.Proofs.Ytnjeoolbnanmiaa
set_option linter.unusedVariables false
open Go.RowKit

/-- What a stamp says at a time: whether it holds, and on whom that hangs. -/
def saidT (l : List Ti) (x y at' : Int) : Bool × Int :=
  if x = 0 then (decide (y ≤ at'), 0)
  else if (stateT l x).s = 2 ∧ (stateT l x).e ≤ at' then (true, x)
  else if (stateT l x).s = 3 ∧ (stateT l x).e ≤ at' then (true, 0)
  else (false, 0)

def wordV (x : Bool × Int) : Value := .agg #[.bool x.1, .int .i64 x.2]
def stampV (x y : Int) : Value := .agg #[.int .i64 x, .int .i64 y]

/-- Two cells of a block, written one behind the other: what stands there. -/
theorem two_heap {w : World} {X : Nat} {a b a' b' : Value} {T : TypeId} (h : w.heap[X]? = some (.cells #[a, b] T (0, 0))) :
    ((w.setCell ⟨X, 0, none⟩ a').setCell ⟨X, 1, none⟩ b').heap[X]? = some (.cells #[a', b'] T (0, 0)) := by
  have h0 := heap_setCell_same w X 0 _ _ a' h
  have h1 := heap_setCell_same (w.setCell ⟨X, 0, none⟩ a') X 1 _ _ b' h0
  rw [h1]
  simp

theorem infoWord : (Try.prog.info? 90).map (·.size) = some 2 := by kernel_rfl

set_option maxRecDepth 100000 in
set_option maxHeartbeats 1000000 in
theorem said_any (x y at' : Int) (v : Value) (l : List Ti) (w : World) (hr : RdT w v l) (hl : l.length ≤ 1000000) :
    Calls Try.prog 52 #[stampV x y, .int .i64 at', v] w fun e w' => e = .returned (wordV (saidT l x y at')) ∧ Below w.heap.size w w' := by
  unfold stampV
  have HR := Lib.hid hr
  clear hr
  have hsz : (w.alloc (.cells #[.int .i64 x, .int .i64 y] 31)).heap.size = w.heap.size + 1 := by simp
  have hz := heap_alloc_new (w.alloc (.cells #[.int .i64 x, .int .i64 y] 31)) (.cells #[.bool false, .int .i64 0] 90)
  have hs := (heap_alloc_old (w.alloc (.cells #[.int .i64 x, .int .i64 y] 31)) (.cells #[.bool false, .int .i64 0] 90) (by rw [hsz]; omega)).trans (heap_alloc_new w (.cells #[.int .i64 x, .int .i64 y] 31))
  rw [hsz] at hz
  have HBA := Lib.hid (below_lay (below_alloc w (.cells #[.int .i64 x, .int .i64 y] 31)) (.cells #[.bool false, .int .i64 0] 90))
  obtain ⟨X, hX⟩ : ∃ X, X = w.heap.size + 1 := ⟨_, rfl⟩
  obtain ⟨X0, hX0⟩ : ∃ X0, X0 = w.heap.size := ⟨_, rfl⟩
  have HX := Lib.hid hX
  have HX0 := Lib.hid hX0
  have HXW := Lib.hid (show w.heap.size ≤ X by omega)
  rw [← hX] at hz
  rw [← hX0] at hs
  obtain ⟨W2, hW2⟩ : ∃ W2 : World, W2 = (w.alloc (.cells #[.int .i64 x, .int .i64 y] 31)).alloc (.cells #[.bool false, .int .i64 0] 90) := ⟨_, rfl⟩
  rw [← hW2] at hz hs HBA
  have HZ := Lib.hid hz
  have HS := Lib.hid hs
  have HW2 := Lib.hid hW2
  have s0 : W2.cell? ⟨X0, 0, none⟩ = some (.int .i64 x) := by rw [cell_of_row W2 X0 0 _ _ _ HS.out]; rfl
  have s1 : W2.cell? ⟨X0, 1, none⟩ = some (.int .i64 y) := by rw [cell_of_row W2 X0 1 _ _ _ HS.out]; rfl
  have z0 : W2.cell? ⟨X, 0, none⟩ = some (.bool false) := by rw [cell_of_row W2 X 0 _ _ _ HZ.out]; rfl
  have z1 : W2.cell? ⟨X, 1, none⟩ = some (.int .i64 0) := by rw [cell_of_row W2 X 1 _ _ _ HZ.out]; rfl
  have f0 : W2.frozen? ⟨X, 0, none⟩ = false := frozen_of_row W2 X 0 _ _ HZ.out
  have f1 : W2.frozen? ⟨X, 1, none⟩ = false := frozen_of_row W2 X 1 _ _ HZ.out
  clear hz hs hX hX0 hsz hW2
  by_cases hx0 : x = 0
  · have q0 : (x == 0) = true := by rw [beq_iff_eq]; exact hx0
    have HA := Lib.hid (show saidT l x y at' = (decide (y ≤ at'), 0) by unfold saidT; rw [if_pos hx0])
    clear hx0
    go_enter Try.func52, Try.ntmps52
    go_upto_if 10 with (fail)
    rw [← HX.out, ← HX0.out, ← HW2.out]
    go_wp2_with fail
    (try simp only [Exit.inBlock, Exit.then])
    refine bodyPost_ret (results_cell_row rfl _ _ X _ _ (0, 0) _ rfl (two_heap HZ.out) Try.underlying90 rfl infoWord) rfl ?_
    refine ⟨by rw [HA.out]; rfl, HBA.out.trans ?_⟩
    exact ((Below.refl w.heap.size _).setCell (p := ⟨X, 0, none⟩) HXW.out _).setCell (p := ⟨X, 1, none⟩) HXW.out _
  · have q0 : (x == 0) = false := by rw [beq_eq_false_iff_ne]; exact hx0
    go_enter Try.func52, Try.ntmps52
    go_upto_if 10 with (fail)
    rw [← HX.out, ← HX0.out, ← HW2.out]
    go_wp2_with fail
    refine (state_any _ l x _ (HR.out.kept HBA.out) hl).mono ?_
    rintro e w3 ⟨rfl, hb⟩
    have hz := (hb.block X (World.block_lt_of_cell? _ _ z0)).trans HZ.out
    have hs := (hb.block X0 (World.block_lt_of_cell? _ _ s0)).trans HS.out
    clear s0 s1 z0 z1 f0 f1
    have HZ3 := Lib.hid hz
    have s0 : w3.cell? ⟨X0, 0, none⟩ = some (.int .i64 x) := by rw [cell_of_row w3 X0 0 _ _ _ hs]; rfl
    have z0 : w3.cell? ⟨X, 0, none⟩ = some (.bool false) := by rw [cell_of_row w3 X 0 _ _ _ hz]; rfl
    have z1 : w3.cell? ⟨X, 1, none⟩ = some (.int .i64 0) := by rw [cell_of_row w3 X 1 _ _ _ hz]; rfl
    have f0 : w3.frozen? ⟨X, 0, none⟩ = false := frozen_of_row w3 X 0 _ _ hz
    have f1 : w3.frozen? ⟨X, 1, none⟩ = false := frozen_of_row w3 X 1 _ _ hz
    obtain ⟨t, ht⟩ : ∃ t, t = stateT l x := ⟨_, rfl⟩
    rw [← ht]
    have HT := Lib.hid ht
    have HB3 := Lib.hid (below_then HBA.out hb)
    unfold Ti.agg
    have hz4 := (heap_alloc_old w3 (.cells #[.int .i64 t.i, .int .i64 t.s, .int .i64 t.b, .int .i64 t.e] 26) (World.block_lt_of_cell? _ _ z0)).trans hz
    have hs4 := (heap_alloc_old w3 (.cells #[.int .i64 t.i, .int .i64 t.s, .int .i64 t.b, .int .i64 t.e] 26) (World.block_lt_of_cell? _ _ s0)).trans hs
    have HZ4 := Lib.hid hz4
    have HB4 := Lib.hid (below_lay HB3.out (.cells #[.int .i64 t.i, .int .i64 t.s, .int .i64 t.b, .int .i64 t.e] 26))
    have s4 : (w3.alloc (.cells #[.int .i64 t.i, .int .i64 t.s, .int .i64 t.b, .int .i64 t.e] 26)).cell? ⟨X0, 0, none⟩ = some (.int .i64 x) := by rw [cell_of_row _ X0 0 _ _ _ hs4]; rfl
    have z4 : (w3.alloc (.cells #[.int .i64 t.i, .int .i64 t.s, .int .i64 t.b, .int .i64 t.e] 26)).cell? ⟨X, 0, none⟩ = some (.bool false) := by rw [cell_of_row _ X 0 _ _ _ hz4]; rfl
    have z5 : (w3.alloc (.cells #[.int .i64 t.i, .int .i64 t.s, .int .i64 t.b, .int .i64 t.e] 26)).cell? ⟨X, 1, none⟩ = some (.int .i64 0) := by rw [cell_of_row _ X 1 _ _ _ hz4]; rfl
    have g0 : (w3.alloc (.cells #[.int .i64 t.i, .int .i64 t.s, .int .i64 t.b, .int .i64 t.e] 26)).frozen? ⟨X, 0, none⟩ = false := frozen_of_row _ X 0 _ _ hz4
    have g1 : (w3.alloc (.cells #[.int .i64 t.i, .int .i64 t.s, .int .i64 t.b, .int .i64 t.e] 26)).frozen? ⟨X, 1, none⟩ = false := frozen_of_row _ X 1 _ _ hz4
    have hsa : saidT l x y at' = if t.s = 2 ∧ t.e ≤ at' then (true, x) else if t.s = 3 ∧ t.e ≤ at' then (true, 0) else (false, 0) := by
      unfold saidT
      rw [if_neg hx0, ← ht]
    clear hz hs hb ht hz4 hs4 hx0
    have hcase : ((t.s == 2) = true ∧ decide (t.e ≤ at') = true ∧ True ∧ saidT l x y at' = (true, x)) ∨ ((t.s == 2) = true ∧ decide (t.e ≤ at') = false ∧ (t.s == 3) = false ∧ saidT l x y at' = (false, 0)) ∨
        ((t.s == 2) = false ∧ decide (t.e ≤ at') = true ∧ (t.s == 3) = true ∧ saidT l x y at' = (true, 0)) ∨ ((t.s == 2) = false ∧ decide (t.e ≤ at') = false ∧ (t.s == 3) = true ∧ saidT l x y at' = (false, 0)) ∨
        ((t.s == 2) = false ∧ True ∧ (t.s == 3) = false ∧ saidT l x y at' = (false, 0)) := by
      rw [hsa]
      by_cases h2 : t.s = 2
      · by_cases he : t.e ≤ at'
        · left; exact ⟨by simp [h2], by simp [he], trivial, by rw [if_pos ⟨h2, he⟩]⟩
        · right; left; exact ⟨by simp [h2], by simp; omega, by simp [h2], by rw [if_neg (fun h => he h.2), if_neg (fun h => he h.2)]⟩
      · by_cases h3 : t.s = 3
        · by_cases he : t.e ≤ at'
          · right; right; left; exact ⟨by simp [h3], by simp [he], by simp [h3], by rw [if_neg (fun h => h2 h.1), if_pos ⟨h3, he⟩]⟩
          · right; right; right; left; exact ⟨by simp [h3], by simp; omega, by simp [h3], by rw [if_neg (fun h => h2 h.1), if_neg (fun h => he h.2)]⟩
        · right; right; right; right; exact ⟨by simp [h2], trivial, by simp [h3], by rw [if_neg (fun h => h2 h.1), if_neg (fun h => h3 h.1)]⟩
    clear hsa
    rcases hcase with ⟨q2, qe, q3, ha⟩ | ⟨q2, qe, q3, ha⟩ | ⟨q2, qe, q3, ha⟩ | ⟨q2, qe, q3, ha⟩ | ⟨q2, qe, q3, ha⟩
    all_goals
      have HA := Lib.hid ha
      clear ha
      go_wp2_with fail
      (try simp only [Exit.inBlock, Exit.then])
      refine bodyPost_ret (results_cell_row rfl _ _ X _ _ (0, 0) _ rfl (two_heap HZ4.out) Try.underlying90 rfl infoWord) rfl ?_
      refine ⟨by rw [HA.out]; rfl, HB4.out.trans ?_⟩
      exact ((Below.refl w.heap.size _).setCell (p := ⟨X, 0, none⟩) HXW.out _).setCell (p := ⟨X, 1, none⟩) HXW.out _

end Go.Proofs.Ytnjeoolbnanmiaa
