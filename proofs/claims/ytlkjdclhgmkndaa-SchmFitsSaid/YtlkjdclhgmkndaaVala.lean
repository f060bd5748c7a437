/-
  Contract of layer 6's Value.
-/
import Derived.Test.YtlkjdclhgmkndaaVal
import Derived.Lib.SmallJoins
namespace Go.Proofs.Ytlkjdclhgmkndaa
set_option linter.unusedVariables false
open Go.RowKit

/-- Four cells of a block, written one behind the other: what stands there. -/
theorem four_heap {w : World} {X : Nat} {a b c d a' b' c' d' : Value} {T : TypeId} (h : w.heap[X]? = some (.cells #[a, b, c, d] T (0, 0))) :
    ((((w.setCell ⟨X, 0, none⟩ a').setCell ⟨X, 1, none⟩ b').setCell ⟨X, 2, none⟩ c').setCell ⟨X, 3, none⟩ d').heap[X]? = some (.cells #[a', b', c', d'] T (0, 0)) := by
  have h0 := heap_setCell_same w X 0 _ _ a' h
  have h1 := heap_setCell_same (w.setCell ⟨X, 0, none⟩ a') X 1 _ _ b' h0
  have h2 := heap_setCell_same _ X 2 _ _ c' h1
  have h3 := heap_setCell_same _ X 3 _ _ d' h2
  rw [h3]
  simp
theorem infoVal4 : (Try.prog.info? 31).map (·.size) = some 4 := by kernel_rfl

/-- That slice lies in memory from B on. -/
def FreshV (B : Nat) (s : Value) : Prop := ∀ a n c, s = .slice (some a) n c → B ≤ a.block
theorem fresh_nil (B : Nat) : FreshV B (.slice none 0 0) := fun a n c h => by cases h

/-- The number of a value. -/
def numOf (n : Int) : Int :=
  if n / 64 % 16 = 0 then wrap64 (n * 712544676207699905) else if n / 64 % 16 = 1 then -(n / 8 % 8) else if n / 64 % 16 = 2 then 9223372036854775807 - n / 8 % 8 else n / 8 % 8
def abcs : List Nat := [97, 98, 99, 97, 98, 99, 97, 98]
/-- A value of a number, of a column. -/
def valOf (c : Co) (n : Int) : Vc :=
  if c.u = true ∧ n % 8 = 0 then ⟨true, c.k, 0, []⟩ else if c.k = 1 then ⟨false, 1, numOf n, []⟩ else ⟨false, c.k, 0, (abcs.drop (n / 8 % 4).toNat).take (n / 32 % 4).toNat⟩

theorem heap2 (w : World) (o1 o2 : Obj) : ((w.alloc o1).alloc o2).heap[w.heap.size + 1]? = some o2 := by
  have := heap_alloc_new (w.alloc o1) o2
  rwa [show (w.alloc o1).heap.size = w.heap.size + 1 by simp] at this
theorem heap3 (w : World) (o1 o2 o3 : Obj) : (((w.alloc o1).alloc o2).alloc o3).heap[w.heap.size + 1]? = some o2 :=
  (heap_alloc_old _ o3 (by simp)).trans (heap2 w o1 o2)
theorem heap4 (w : World) (o1 o2 o3 o4 : Obj) : ((((w.alloc o1).alloc o2).alloc o3).alloc o4).heap[w.heap.size + 1]? = some o2 :=
  (heap_alloc_old _ o4 (by simp)).trans (heap3 w o1 o2 o3)
theorem rd_abc (w : World) (t : TypeId) (fr : Nat × Nat) (X P Q : Nat) (hX : X = w.heap.size) (h : P + Q ≤ 8) :
    Rd (w.alloc (.cells #[.int .u8 97, .int .u8 98, .int .u8 99, .int .u8 97, .int .u8 98, .int .u8 99, .int .u8 97, .int .u8 98] t fr)) (.slice (some ⟨X, P, none⟩) Q (8 - P)) (((abcs.drop P).take Q).map u8v) := by
  have hl : (((abcs.drop P).take Q).map u8v).length = Q := by simp [abcs]; omega
  refine ⟨some ⟨X, P, none⟩, 8 - P, by rw [hl], ⟨(fun h => by cases h), by rw [hl]; omega⟩, fun hp => ⟨X, P, rfl, fun i hi => ?_⟩⟩
  rw [hl] at hi
  rw [Joins.cell_alloc_mark_at w _ t fr X (P + i) hX, show #[Value.int .u8 97, .int .u8 98, .int .u8 99, .int .u8 97, .int .u8 98, .int .u8 99, .int .u8 97, .int .u8 98] = (abcs.map u8v).toArray from rfl]
  rw [List.getElem?_toArray, List.getD_eq_getElem?_getD, List.getElem?_map, List.getElem?_map, List.getElem?_take, if_pos hi, List.getElem?_drop]
  have : P + i < abcs.length := by simp [abcs]; omega
  rw [List.getElem?_eq_getElem this]
  rfl
theorem abcs_lt (P Q : Nat) : ∀ x ∈ (abcs.drop P).take Q, x < 256 := fun x hx => by
  have := List.mem_of_mem_drop (List.mem_of_mem_take hx)
  simp [abcs] at this
  omega
theorem below2 (w : World) (o1 o2 : Obj) : Below w.heap.size w ((w.alloc o1).alloc o2) := below_lay (below_alloc w o1) o2
theorem below3 (w : World) (o1 o2 o3 : Obj) : Below w.heap.size w (((w.alloc o1).alloc o2).alloc o3) := below_lay (below2 w o1 o2) o3

set_option maxRecDepth 100000 in
set_option maxHeartbeats 1000000 in
theorem value_any (c : Co) (n : Int) (w : World) :
    Calls Try.prog 51 #[c.agg, .int .i64 n] w fun e w' => ∃ s, e = .returned (aggV (valOf c n, s)) ∧ OkV w' (valOf c n, s) ∧ Below w.heap.size w w' ∧ FreshV w.heap.size s := by
  obtain ⟨nm, k, u⟩ := c
  have b7 : ∀ x, bits .and .i64 x 7 = x % 8 := fun x => and_low x 3 (by decide) 7 rfl
  have b15 : ∀ x, bits .and .i64 x 15 = x % 16 := fun x => and_low x 4 (by decide) 15 rfl
  have b3 : ∀ x, bits .and .i64 x 3 = x % 4 := fun x => and_low x 2 (by decide) 3 rfl
  unfold Co.agg
  by_cases hz : u = true ∧ n % 8 = 0
  · have HV := Lib.hid (show valOf ⟨nm, k, u⟩ n = ⟨true, k, 0, []⟩ by unfold valOf; rw [if_pos hz])
    obtain ⟨hu, hm⟩ := hz
    subst hu
    have q0 : (n % 8 == 0) = true := by rw [beq_iff_eq]; exact hm
    clear hm
    go_enter Try.func51, Try.ntmps51
    go_wp2_with fail
    refine bodyPost_ret (results_cell_row rfl _ _ (w.heap.size + 1) _ _ (0, 0) _ rfl (heap2 w _ _) Try.underlying31 rfl infoVal4) rfl ?_
    rw [HV.out]
    exact ⟨.slice none 0 0, rfl, ⟨Rd.nil _, fun x hx => by cases hx⟩, below2 w _ _, fresh_nil _⟩
  · by_cases hk : k = 1
    · subst hk
      have HV := Lib.hid (show valOf ⟨nm, 1, u⟩ n = ⟨false, 1, numOf n, []⟩ by unfold valOf; rw [if_neg hz, if_pos rfl])
      have hq : (u && (n % 8 == 0)) = false := by
        rw [Bool.and_eq_false_iff, beq_eq_false_iff_ne]
        cases u
        · exact .inl rfl
        · exact .inr fun h => hz ⟨rfl, h⟩
      clear hz
      rcases (by omega : n / 64 % 16 = 0 ∨ n / 64 % 16 = 1 ∨ n / 64 % 16 = 2 ∨ (n / 64 % 16 ≠ 0 ∧ n / 64 % 16 ≠ 1 ∧ n / 64 % 16 ≠ 2)) with h | h | h | h
      · have HN := Lib.hid (show numOf n = wrap64 (n * 712544676207699905) by unfold numOf; rw [if_pos h])
        have q0 : (n / 64 % 16 == 0) = true := by rw [beq_iff_eq]; exact h
        clear h
        cases u
        all_goals
          try (have q9 : (n % 8 == 0) = false := hq)
          clear hq
          go_enter Try.func51, Try.ntmps51
          go_wp2_with fail
          refine bodyPost_ret (results_cell_row rfl _ _ (w.heap.size + 1) _ _ (0, 0) _ rfl (heap3 w _ _ _) Try.underlying31 rfl infoVal4) rfl ?_
          rw [HV.out, HN.out]
          exact ⟨.slice none 0 0, rfl, ⟨Rd.nil _, fun x hx => by cases hx⟩, below3 w _ _ _, fresh_nil _⟩
      · have HN := Lib.hid (show numOf n = -(n / 8 % 8) by unfold numOf; rw [if_neg (by omega), if_pos h])
        have q0 : (n / 64 % 16 == 0) = false := by rw [beq_eq_false_iff_ne]; omega
        have q1 : (n / 64 % 16 == 1) = true := by rw [beq_iff_eq]; exact h
        clear h
        cases u
        all_goals
          try (have q9 : (n % 8 == 0) = false := hq)
          clear hq
          go_enter Try.func51, Try.ntmps51
          go_wp2_with fail
          refine bodyPost_ret (results_cell_row rfl _ _ (w.heap.size + 1) _ _ (0, 0) _ rfl (heap3 w _ _ _) Try.underlying31 rfl infoVal4) rfl ?_
          rw [HV.out, HN.out]
          exact ⟨.slice none 0 0, rfl, ⟨Rd.nil _, fun x hx => by cases hx⟩, below3 w _ _ _, fresh_nil _⟩
      · have HN := Lib.hid (show numOf n = 9223372036854775807 - n / 8 % 8 by unfold numOf; rw [if_neg (by omega), if_neg (by omega), if_pos h])
        have q0 : (n / 64 % 16 == 0) = false := by rw [beq_eq_false_iff_ne]; omega
        have q1 : (n / 64 % 16 == 1) = false := by rw [beq_eq_false_iff_ne]; omega
        have q2 : (n / 64 % 16 == 2) = true := by rw [beq_iff_eq]; exact h
        clear h
        cases u
        all_goals
          try (have q9 : (n % 8 == 0) = false := hq)
          clear hq
          go_enter Try.func51, Try.ntmps51
          go_wp2_with fail
          refine bodyPost_ret (results_cell_row rfl _ _ (w.heap.size + 1) _ _ (0, 0) _ rfl (heap3 w _ _ _) Try.underlying31 rfl infoVal4) rfl ?_
          rw [HV.out, HN.out]
          exact ⟨.slice none 0 0, rfl, ⟨Rd.nil _, fun x hx => by cases hx⟩, below3 w _ _ _, fresh_nil _⟩
      · have HN := Lib.hid (show numOf n = n / 8 % 8 by unfold numOf; rw [if_neg h.1, if_neg h.2.1, if_neg h.2.2])
        have q0 : (n / 64 % 16 == 0) = false := by rw [beq_eq_false_iff_ne]; exact h.1
        have q1 : (n / 64 % 16 == 1) = false := by rw [beq_eq_false_iff_ne]; exact h.2.1
        have q2 : (n / 64 % 16 == 2) = false := by rw [beq_eq_false_iff_ne]; exact h.2.2
        clear h
        cases u
        all_goals
          try (have q9 : (n % 8 == 0) = false := hq)
          clear hq
          go_enter Try.func51, Try.ntmps51
          go_wp2_with fail
          refine bodyPost_ret (results_cell_row rfl _ _ (w.heap.size + 1) _ _ (0, 0) _ rfl (heap3 w _ _ _) Try.underlying31 rfl infoVal4) rfl ?_
          rw [HV.out, HN.out]
          exact ⟨.slice none 0 0, rfl, ⟨Rd.nil _, fun x hx => by cases hx⟩, below3 w _ _ _, fresh_nil _⟩
    · have HV := Lib.hid (show valOf ⟨nm, k, u⟩ n = ⟨false, k, 0, (abcs.drop (n / 8 % 4).toNat).take (n / 32 % 4).toNat⟩ by unfold valOf; rw [if_neg hz, if_neg hk])
      have hq : (u && (n % 8 == 0)) = false := by
        rw [Bool.and_eq_false_iff, beq_eq_false_iff_ne]
        cases u
        · exact .inl rfl
        · exact .inr fun h => hz ⟨rfl, h⟩
      have q0 : (k == 1) = false := by rw [beq_eq_false_iff_ne]; exact hk
      clear hz hk
      cases u
      all_goals
        try (have q9 : (n % 8 == 0) = false := hq)
        clear hq
        first
          | (have kc := Joins.run_convert_bytes_const_at (P := Try.prog) (((w.alloc (.cells #[.string nm, .int .i64 k, .bool false] 33)).alloc (.cells #[.bool false, .int .i64 0, .int .i64 0, .slice none 0 0] 31)).alloc (.cells #[.bool false, .int .i64 k, .int .i64 0, .slice none 0 0] 31))
              29 5 #[.int .u8 97, .int .u8 98, .int .u8 99, .int .u8 97, .int .u8 98, .int .u8 99, .int .u8 97, .int .u8 98] 8 8 (w.heap.size + 1 + 1 + 1) (by simp) Try.underlying29 Try.underlying5
             go_enter Try.func51, Try.ntmps51
             go_wp2_with fail
             refine bodyPost_ret (results_cell_row rfl _ _ (w.heap.size + 1) _ _ (0, 0) _ rfl (heap4 w _ _ _ _) Try.underlying31 rfl infoVal4) rfl ?_)
          | (have kc := Joins.run_convert_bytes_const_at (P := Try.prog) (((w.alloc (.cells #[.string nm, .int .i64 k, .bool true] 33)).alloc (.cells #[.bool false, .int .i64 0, .int .i64 0, .slice none 0 0] 31)).alloc (.cells #[.bool false, .int .i64 k, .int .i64 0, .slice none 0 0] 31))
              29 5 #[.int .u8 97, .int .u8 98, .int .u8 99, .int .u8 97, .int .u8 98, .int .u8 99, .int .u8 97, .int .u8 98] 8 8 (w.heap.size + 1 + 1 + 1) (by simp) Try.underlying29 Try.underlying5
             go_enter Try.func51, Try.ntmps51
             go_wp2_with fail
             refine bodyPost_ret (results_cell_row rfl _ _ (w.heap.size + 1) _ _ (0, 0) _ rfl (heap4 w _ _ _ _) Try.underlying31 rfl infoVal4) rfl ?_)
        rw [HV.out, show (n / 8 % 4 + n / 32 % 4).toNat - (n / 8 % 4).toNat = (n / 32 % 4).toNat by omega]
        exact ⟨_, rfl, ⟨rd_abc _ _ _ _ _ _ (by simp) (by omega), abcs_lt _ _⟩, below_lay (below3 w _ _ _) _, fun a n c h => by cases h; simp; omega⟩

end Go.Proofs.Ytlkjdclhgmkndaa
