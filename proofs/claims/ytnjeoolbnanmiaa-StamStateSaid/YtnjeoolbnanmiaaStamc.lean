/-
  Contracts of stam's isNever, isOf, saidOfEnd.
-/
import Derived.Test.YtnjeoolbnanmiaaStamb
namespace Go.Proofs.Ytnjeoolbnanmiaa
set_option linter.unusedVariables false
open Go.RowKit

def neverB (x y : Int) : Bool := (x == 0) && (y == 0)
def isOfB (x me : Int) : Bool := (x != 0) && (x == me)
def endT (l : List Ti) (x y at' : Int) : Bool × Int := if neverB x y = true then (false, 0) else saidT l x y at'

set_option maxRecDepth 100000 in
set_option maxHeartbeats 1000000 in
theorem isNever_any (x y : Int) (w : World) :
    Calls Try.prog 56 #[stampV x y] w fun e w' => e = .returned (.bool (neverB x y)) ∧ Below w.heap.size w w' := by
  unfold stampV
  cases hx : (x == 0)
  · have HA := Lib.hid (show neverB x y = false by unfold neverB; rw [hx]; rfl)
    go_enter Try.func56, Try.ntmps56
    go_wp2_with fail
    go_ret
    exact ⟨by rw [HA.out]; rfl, below_alloc w _⟩
  · cases hy : (y == 0)
    · have HA := Lib.hid (show neverB x y = false by unfold neverB; rw [hx, hy]; rfl)
      go_enter Try.func56, Try.ntmps56
      go_wp2_with fail
      go_ret
      exact ⟨by rw [HA.out]; rfl, below_alloc w _⟩
    · have HA := Lib.hid (show neverB x y = true by unfold neverB; rw [hx, hy]; rfl)
      go_enter Try.func56, Try.ntmps56
      go_wp2_with fail
      go_ret
      exact ⟨by rw [HA.out]; rfl, below_alloc w _⟩

set_option maxRecDepth 100000 in
set_option maxHeartbeats 1000000 in
theorem isOf_any (x y me : Int) (w : World) :
    Calls Try.prog 54 #[stampV x y, .int .i64 me] w fun e w' => e = .returned (.bool (isOfB x me)) ∧ Below w.heap.size w w' := by
  unfold stampV
  cases hx : (x != 0)
  · have HA := Lib.hid (show isOfB x me = false by unfold isOfB; rw [hx]; rfl)
    go_enter Try.func54, Try.ntmps54
    go_wp2_with fail
    go_ret
    exact ⟨by rw [HA.out]; rfl, below_alloc w _⟩
  · cases hy : (x == me)
    · have HA := Lib.hid (show isOfB x me = false by unfold isOfB; rw [hx, hy]; rfl)
      go_enter Try.func54, Try.ntmps54
      go_wp2_with fail
      go_ret
      exact ⟨by rw [HA.out]; rfl, below_alloc w _⟩
    · have HA := Lib.hid (show isOfB x me = true by unfold isOfB; rw [hx, hy]; rfl)
      go_enter Try.func54, Try.ntmps54
      go_wp2_with fail
      go_ret
      exact ⟨by rw [HA.out]; rfl, below_alloc w _⟩

set_option maxRecDepth 100000 in
set_option maxHeartbeats 1000000 in
theorem saidOfEnd_any (x y at' : Int) (v : Value) (l : List Ti) (w : World) (hr : RdT w v l) (hl : l.length ≤ 1000000) :
    Calls Try.prog 53 #[stampV x y, .int .i64 at', v] w fun e w' => e = .returned (wordV (endT l x y at')) ∧ Below w.heap.size w w' := by
  have HR := Lib.hid hr
  clear hr
  have hsz : (w.alloc (.cells #[.int .i64 x, .int .i64 y] 31)).heap.size = w.heap.size + 1 := by simp
  have hz := heap_alloc_new (w.alloc (.cells #[.int .i64 x, .int .i64 y] 31)) (.cells #[.bool false, .int .i64 0] 90)
  have hs := (heap_alloc_old (w.alloc (.cells #[.int .i64 x, .int .i64 y] 31)) (.cells #[.bool false, .int .i64 0] 90) (by rw [hsz]; omega)).trans (heap_alloc_new w (.cells #[.int .i64 x, .int .i64 y] 31))
  rw [hsz] at hz
  have HBA := Lib.hid (below_lay (below_alloc w (.cells #[.int .i64 x, .int .i64 y] 31)) (.cells #[.bool false, .int .i64 0] 90))
  obtain ⟨X, hX⟩ : ∃ X, X = w.heap.size + 1 := ⟨_, rfl⟩
  obtain ⟨X0, hX0⟩ : ∃ X0, X0 = w.heap.size := ⟨_, rfl⟩
  have HX := Lib.hid hX
  have HX0 := Lib.hid hX0
  have HXW := Lib.hid (show w.heap.size ≤ X by omega)
  rw [← hX] at hz
  rw [← hX0] at hs
  obtain ⟨W2, hW2⟩ : ∃ W2 : World, W2 = (w.alloc (.cells #[.int .i64 x, .int .i64 y] 31)).alloc (.cells #[.bool false, .int .i64 0] 90) := ⟨_, rfl⟩
  rw [← hW2] at hz hs HBA
  have HZ := Lib.hid hz
  have HS := Lib.hid hs
  have HW2 := Lib.hid hW2
  have s0 : W2.cell? ⟨X0, 0, none⟩ = some (.int .i64 x) := by rw [cell_of_row W2 X0 0 _ _ _ HS.out]; rfl
  have s1 : W2.cell? ⟨X0, 1, none⟩ = some (.int .i64 y) := by rw [cell_of_row W2 X0 1 _ _ _ HS.out]; rfl
  have z0 : W2.cell? ⟨X, 0, none⟩ = some (.bool false) := by rw [cell_of_row W2 X 0 _ _ _ HZ.out]; rfl
  have z1 : W2.cell? ⟨X, 1, none⟩ = some (.int .i64 0) := by rw [cell_of_row W2 X 1 _ _ _ HZ.out]; rfl
  have f0 : W2.frozen? ⟨X, 0, none⟩ = false := frozen_of_row W2 X 0 _ _ HZ.out
  have f1 : W2.frozen? ⟨X, 1, none⟩ = false := frozen_of_row W2 X 1 _ _ HZ.out
  clear hz hs hX hX0 hsz hW2
  have HNB := fun w => Lib.hid (isNever_any x y w)
  have HSA := fun (w : World) (h : RdT w v l) => Lib.hid (said_any x y at' v l w h hl)
  unfold stampV at HNB HSA ⊢
  go_enter Try.func53, Try.ntmps53
  go_upto_region 1 with (fail)
  rw [← HX.out, ← HX0.out, ← HW2.out]
  go_wp2_with fail
  refine (HNB _).out.mono ?_
  rintro e w3 ⟨rfl, hb⟩
  have hz := (hb.block X (World.block_lt_of_cell? _ _ z0)).trans HZ.out
  have hs := (hb.block X0 (World.block_lt_of_cell? _ _ s0)).trans HS.out
  have HB3 := Lib.hid (below_then HBA.out hb)
  have HR3 := Lib.hid ((HR.out.kept HBA.out).kept hb)
  have HZ3 := Lib.hid hz
  have HS3 := Lib.hid hs
  clear s0 s1 z0 z1 f0 f1 hb
  cases hnv : neverB x y
  · have HA := Lib.hid (show endT l x y at' = saidT l x y at' by unfold endT; rw [hnv]; rfl)
    clear hnv
    have s0 : w3.cell? ⟨X0, 0, none⟩ = some (.int .i64 x) := by rw [cell_of_row w3 X0 0 _ _ _ hs]; rfl
    have s1 : w3.cell? ⟨X0, 1, none⟩ = some (.int .i64 y) := by rw [cell_of_row w3 X0 1 _ _ _ hs]; rfl
    have z0 : w3.cell? ⟨X, 0, none⟩ = some (.bool false) := by rw [cell_of_row w3 X 0 _ _ _ hz]; rfl
    have z1 : w3.cell? ⟨X, 1, none⟩ = some (.int .i64 0) := by rw [cell_of_row w3 X 1 _ _ _ hz]; rfl
    have f0 : w3.frozen? ⟨X, 0, none⟩ = false := frozen_of_row w3 X 0 _ _ hz
    have f1 : w3.frozen? ⟨X, 1, none⟩ = false := frozen_of_row w3 X 1 _ _ hz
    clear hz hs
    go_wp2_with fail
    refine (HSA _ HR3.out).out.mono ?_
    rintro e w4 ⟨rfl, hb⟩
    have hz := (hb.block X (World.block_lt_of_cell? _ _ z0)).trans HZ3.out
    have HZ4 := Lib.hid hz
    have HB4 := Lib.hid (below_then HB3.out hb)
    clear s0 s1 z0 z1 f0 f1 hb
    have z0 : w4.cell? ⟨X, 0, none⟩ = some (.bool false) := by rw [cell_of_row w4 X 0 _ _ _ hz]; rfl
    have z1 : w4.cell? ⟨X, 1, none⟩ = some (.int .i64 0) := by rw [cell_of_row w4 X 1 _ _ _ hz]; rfl
    have f0 : w4.frozen? ⟨X, 0, none⟩ = false := frozen_of_row w4 X 0 _ _ hz
    have f1 : w4.frozen? ⟨X, 1, none⟩ = false := frozen_of_row w4 X 1 _ _ hz
    clear hz
    unfold wordV
    go_wp2_with fail
    (try simp only [Exit.inBlock, Exit.then])
    refine bodyPost_ret (results_cell_row rfl _ _ X _ _ (0, 0) _ rfl (two_heap HZ4.out) Try.underlying90 rfl infoWord) rfl ?_
    refine ⟨by rw [HA.out]; rfl, HB4.out.trans ?_⟩
    exact ((Below.refl w.heap.size _).setCell (p := ⟨X, 0, none⟩) HXW.out _).setCell (p := ⟨X, 1, none⟩) HXW.out _
  · have HA := Lib.hid (show endT l x y at' = (false, 0) by unfold endT; rw [hnv]; rfl)
    clear hnv
    have s0 : w3.cell? ⟨X0, 0, none⟩ = some (.int .i64 x) := by rw [cell_of_row w3 X0 0 _ _ _ hs]; rfl
    have s1 : w3.cell? ⟨X0, 1, none⟩ = some (.int .i64 y) := by rw [cell_of_row w3 X0 1 _ _ _ hs]; rfl
    have z0 : w3.cell? ⟨X, 0, none⟩ = some (.bool false) := by rw [cell_of_row w3 X 0 _ _ _ hz]; rfl
    have z1 : w3.cell? ⟨X, 1, none⟩ = some (.int .i64 0) := by rw [cell_of_row w3 X 1 _ _ _ hz]; rfl
    have f0 : w3.frozen? ⟨X, 0, none⟩ = false := frozen_of_row w3 X 0 _ _ hz
    have f1 : w3.frozen? ⟨X, 1, none⟩ = false := frozen_of_row w3 X 1 _ _ hz
    clear hz hs
    go_wp2_with fail
    (try simp only [Exit.inBlock, Exit.then])
    refine bodyPost_ret (results_cell_row rfl _ _ X _ _ (0, 0) _ rfl (two_heap HZ3.out) Try.underlying90 rfl infoWord) rfl ?_
    refine ⟨by rw [HA.out]; rfl, HB3.out.trans ?_⟩
    exact ((Below.refl w.heap.size _).setCell (p := ⟨X, 0, none⟩) HXW.out _).setCell (p := ⟨X, 1, none⟩) HXW.out _

end Go.Proofs.Ytnjeoolbnanmiaa
