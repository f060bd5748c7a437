/-
  Contracts of stam's isGone and May.
-/
import Derived.Test.YtnjeoolbnanmiaaStamc
namespace Go.Proofs.Ytnjeoolbnanmiaa
set_option linter.unusedVariables false
open Go.RowKit

def goneB (t : Ti) : Bool := (t.s == 0) || (t.s == 4)
def spanV (bx b ex e : Int) : Value := .agg #[.int .i64 bx, .int .i64 b, .int .i64 ex, .int .i64 e]
def mayT (l : List Ti) (ex e me : Int) : Int :=
  if neverB ex e = true then 1 else if ex = 0 then 4 else if goneB (stateT l ex) = true then 1 else if isOfB ex me = true then 2 else 3

set_option maxRecDepth 100000 in
set_option maxHeartbeats 1000000 in
theorem isGone_any (t : Ti) (w : World) :
    Calls Try.prog 57 #[t.agg] w fun e w' => e = .returned (.bool (goneB t)) ∧ Below w.heap.size w w' := by
  unfold Ti.agg
  cases hx : (t.s == 0)
  · have HA := Lib.hid (show goneB t = (t.s == 4) by unfold goneB; rw [hx]; rfl)
    go_enter Try.func57, Try.ntmps57
    go_wp2_with fail
    go_ret
    exact ⟨by rw [HA.out]; rfl, below_alloc w _⟩
  · have HA := Lib.hid (show goneB t = true by unfold goneB; rw [hx]; rfl)
    go_enter Try.func57, Try.ntmps57
    go_wp2_with fail
    go_ret
    exact ⟨by rw [HA.out]; rfl, below_alloc w _⟩

set_option maxRecDepth 100000 in
set_option maxHeartbeats 1000000 in
theorem may_any (bx b ex e me : Int) (v : Value) (l : List Ti) (w : World) (hr : RdT w v l) (hl : l.length ≤ 1000000) :
    Calls Try.prog 22 #[spanV bx b ex e, .int .i64 me, v] w fun z w' => z = .returned (.int .i64 (mayT l ex e me)) ∧ Below w.heap.size w w' := by
  have HR := Lib.hid hr
  have HNB := fun w => Lib.hid (isNever_any ex e w)
  have HOF := fun w => Lib.hid (isOf_any ex e me w)
  have HST := fun (w : World) (h : RdT w v l) => Lib.hid (state_any v l ex w h hl)
  have HGO := fun (t : Ti) (w : World) => Lib.hid (isGone_any t w)
  have hz := heap_alloc_new w (.cells #[.int .i64 bx, .int .i64 b, .int .i64 ex, .int .i64 e] 33)
  have HBA := Lib.hid (below_alloc w (.cells #[.int .i64 bx, .int .i64 b, .int .i64 ex, .int .i64 e] 33))
  have HZ := Lib.hid hz
  obtain ⟨X, hX⟩ : ∃ X, X = w.heap.size := ⟨_, rfl⟩
  have HX := Lib.hid hX
  rw [← hX] at HZ
  clear hr hz hX
  unfold stampV at HNB HOF
  unfold spanV
  go_enter Try.func22, Try.ntmps22
  go_wp2_with fail
  refine (HNB _).out.mono ?_
  rintro z w3 ⟨rfl, hb⟩
  have hX1 : X < (w.alloc (.cells #[.int .i64 bx, .int .i64 b, .int .i64 ex, .int .i64 e] 33)).heap.size := by rw [HX.out]; simp
  have hz := (hb.block X hX1).trans HZ.out
  have HB3 := Lib.hid (below_then HBA.out hb)
  have HR3 := Lib.hid ((HR.out.kept HBA.out).kept hb)
  have HZ3 := Lib.hid hz
  rw [← HX.out]
  have c2 : w3.cell? ⟨X, 2, none⟩ = some (.int .i64 ex) := by rw [cell_of_row w3 X 2 _ _ _ hz]; rfl
  have c3 : w3.cell? ⟨X, 3, none⟩ = some (.int .i64 e) := by rw [cell_of_row w3 X 3 _ _ _ hz]; rfl
  clear hb hz hX1
  cases hnv : neverB ex e
  · by_cases he0 : ex = 0
    · have HA := Lib.hid (show mayT l ex e me = 4 by unfold mayT; rw [hnv, if_neg (by decide), if_pos he0])
      have q0 : (ex == 0) = true := by rw [beq_iff_eq]; exact he0
      clear hnv he0
      go_wp2_with fail
      go_ret
      exact ⟨by rw [HA.out]; rfl, HB3.out⟩
    · have q0 : (ex == 0) = false := by rw [beq_eq_false_iff_ne]; exact he0
      have HA0 := Lib.hid (show mayT l ex e me = if goneB (stateT l ex) = true then 1 else if isOfB ex me = true then 2 else 3 by unfold mayT; rw [hnv, if_neg (by decide), if_neg he0])
      clear hnv he0
      go_wp2_with fail
      refine (HST _ HR3.out).out.mono ?_
      rintro z w4 ⟨rfl, hb⟩
      have hz := (hb.block X (World.block_lt_of_cell? _ _ c2)).trans HZ3.out
      have HB4 := Lib.hid (below_then HB3.out hb)
      have HZ4 := Lib.hid hz
      clear hb hz c2 c3
      obtain ⟨t, ht⟩ : ∃ t, t = stateT l ex := ⟨_, rfl⟩
      rw [← ht] at HA0 ⊢
      clear ht
      go_wp2_with fail
      refine (HGO t _).out.mono ?_
      rintro z w5 ⟨rfl, hb⟩
      have hz := (hb.block X (by
        have h4 : w4.cell? ⟨X, 2, none⟩ = some (.int .i64 ex) := by rw [cell_of_row w4 X 2 _ _ _ HZ4.out]; rfl
        exact World.block_lt_of_cell? w4 _ h4)).trans HZ4.out
      have HB5 := Lib.hid (below_then HB4.out hb)
      have HZ5 := Lib.hid hz
      have c2 : w5.cell? ⟨X, 2, none⟩ = some (.int .i64 ex) := by rw [cell_of_row w5 X 2 _ _ _ hz]; rfl
      have c3 : w5.cell? ⟨X, 3, none⟩ = some (.int .i64 e) := by rw [cell_of_row w5 X 3 _ _ _ hz]; rfl
      clear hb hz
      cases hg : goneB t
      · have HA1 := Lib.hid (show mayT l ex e me = if isOfB ex me = true then 2 else 3 by rw [HA0.out, hg, if_neg (by decide)])
        clear hg
        go_wp2_with fail
        refine (HOF _).out.mono ?_
        rintro z w6 ⟨rfl, hb⟩
        have HB6 := Lib.hid (below_then HB5.out hb)
        clear hb
        cases ho : isOfB ex me
        · have HA := Lib.hid (show mayT l ex e me = 3 by rw [HA1.out, ho, if_neg (by decide)])
          clear ho
          go_wp2_with fail
          go_ret
          exact ⟨by rw [HA.out]; rfl, HB6.out⟩
        · have HA := Lib.hid (show mayT l ex e me = 2 by rw [HA1.out, ho, if_pos rfl])
          clear ho
          go_wp2_with fail
          go_ret
          exact ⟨by rw [HA.out]; rfl, HB6.out⟩
      · have HA := Lib.hid (show mayT l ex e me = 1 by rw [HA0.out, hg, if_pos rfl])
        clear hg
        go_wp2_with fail
        go_ret
        exact ⟨by rw [HA.out]; rfl, HB5.out⟩
  · have HA := Lib.hid (show mayT l ex e me = 1 by unfold mayT; rw [hnv, if_pos rfl])
    clear hnv
    go_wp2_with fail
    go_ret
    exact ⟨by rw [HA.out]; rfl, HB3.out⟩

end Go.Proofs.Ytnjeoolbnanmiaa
