/-
  The walk of NormSame.
-/
import Derived.Test.YtnfjdoeemnhkbaaNsamem
import Derived.Test.YtnfjdoeemnhkbaaNkeym
import Derived.Test.YtnfjdoeemnhkbaaColn
import Derived.Test.YtnfjdoeemnhkbaaLpred
namespace Go.Proofs.Ytnfjdoeemnhkbaa
set_option linter.unusedVariables false
set_option linter.unusedSimpArgs false
open Go.RowKit

/-- The law's Row hands back that row. -/
theorem row_rd (v : Value) (cols : List Co) (n : Int) (w : World) (hv : RdC w v cols) (hl : cols.length ≤ 6) :
    Calls Try.prog 19 #[.agg #[v], .int .i64 n] w fun e w' => ∃ ao cap, e = .returned (.slice ao cols.length cap) ∧ RdRow w' (.slice ao cols.length cap) (rowOf cols n) ∧ Below w.heap.size w w' := by
  refine (row_is v cols n w hv hl).mono ?_
  rintro e w' ⟨u, l, rfl, h1, h2, h3, h4⟩
  obtain ⟨oa, oc, rfl⟩ := oinv_shape h2
  have hlen : l.length = cols.length := by have := congrArg List.length h1; rw [List.length_map, rowOf_len] at this; exact this
  rw [hlen] at h2 ⊢
  refine ⟨oa, oc, rfl, ⟨l, h1, ?_, fun t ht => h2.ok t ht⟩, h3⟩
  exact rdS_own h2.own (by rw [List.length_map, hlen]) fun t ht => by obtain ⟨x, _, rfl⟩ := List.mem_map.1 ht; rfl

theorem row_zero {cols : List Co} (h : ColsOk cols) (n : Int) : ∃ x, (rowOf cols n)[0]? = some x ∧ x.k = 1 := by
  have h0 : 0 < (rowOf cols n).length := by rw [rowOf_len]; exact h.ne
  refine ⟨(rowOf cols n)[0], List.getElem?_eq_getElem h0, ?_⟩
  obtain ⟨c, hc, hk⟩ := rowOf_k h n (List.getElem?_eq_getElem h0)
  rw [hk]
  exact (h.hd c hc).1
theorem cntL_bound : ∀ {l : List Pt} {C : Nat}, (∀ t ∈ l, cntT t ≤ C) → cntL l ≤ l.length * C
  | [], C, _ => by simp [cntL]
  | q :: r, C, h => by
    have h1 := h q List.mem_cons_self
    have h2 := cntL_bound (l := r) fun x hx => h x (List.mem_cons_of_mem _ hx)
    rw [cntL, List.length_cons, Nat.add_mul]
    omega
theorem form_cnt {a : List (List Pt)} (hs : SmallN a) (hl : ∀ x ∈ a, ∀ t ∈ x, LeafN 5 2048 t) : cntT (.mk 5 0 0 zeroV (a.map fun x => .mk 4 0 0 zeroV x)) ≤ 10000000 := by
  have h1 : ∀ q ∈ a.map (fun x => Pt.mk 4 0 0 zeroV x), cntT q ≤ 32 + 32 * 2049 := fun q hq => by
    obtain ⟨x, hx, rfl⟩ := List.mem_map.1 hq
    have h2 := cntL_bound (l := x) (C := 2049) fun t ht => (hl x hx t ht).2
    have h3 := hs.2 x hx
    have h4 := Nat.mul_le_mul_right 2049 h3
    have hz : zeroV.b.length = 0 := rfl
    rw [cntT, hz]
    omega
  have h2 := cntL_bound h1
  rw [List.length_map] at h2
  have h3 := Nat.mul_le_mul_right (32 + 32 * 2049) hs.1
  have hz : zeroV.b.length = 0 := rfl
  rw [cntT, List.length_map, hz]
  have := hs.1
  omega

end Go.Proofs.Ytnfjdoeemnhkbaa
