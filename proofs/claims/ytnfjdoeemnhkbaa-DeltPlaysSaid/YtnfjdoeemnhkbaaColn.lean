/-
  The columns of a number; the law's Schema, as it reads.
-/
import Derived.Test.YtnfjdoeemnhkbaaLsix
import Derived.Test.YtnfjdoeemnhkbaaLseven
namespace Go.Proofs.Ytnfjdoeemnhkbaa
set_option linter.unusedVariables false
set_option linter.unusedSimpArgs false
open Go.RowKit

theorem kinds_ok (n : Int) : Kinds (kindsOf n) ∧ (kindsOf n).length ≤ 5 := by
  refine ⟨fun c hc => ?_, ?_⟩
  · unfold kindsOf at hc
    obtain ⟨k, _, rfl⟩ := List.mem_map.1 hc
    show _ % 2 + 1 = 1 ∨ _ % 2 + 1 = 2
    omega
  · unfold kindsOf
    rw [List.length_map, List.length_range]
    omega
/-- The columns of a number. -/
def colsN (n : Int) : List Co := colsOf (kindsOf n)
theorem colsN_ok (n : Int) : ColsOk (colsN n) := colsOf_ok (kinds_ok n).1 (kinds_ok n).2
theorem colsN_len (n : Int) : (colsN n).length = (kindsOf n).length + 1 := colsOf_len _

/-- The law's Schema hands back these columns, its own. -/
theorem schema_rd (n : Int) (w : World) :
    Calls Try.prog 9 #[.int .i64 n] w fun e w' => ∃ ao cap, e = .returned (.agg #[.slice ao (colsN n).length cap]) ∧ RdSK w.heap.size w' 3 (.slice ao (colsN n).length cap) ((colsN n).map Co.cells) ∧ Below w.heap.size w w' := by
  refine (schema_is n w).mono ?_
  rintro e w' ⟨ao, cap, l, rfl, h2, h3, h4, h5, rfl⟩
  refine ⟨ao, cap, by rw [colsN_len], ?_, h5⟩
  rw [colsN_len]
  exact rdSK_own (ls := (colsN n).map Co.cells) (by rw [flatC_eq] at h4; exact h4) (by rw [List.length_map, colsN_len]) (fun t ht => by obtain ⟨x, _, rfl⟩ := List.mem_map.1 ht; rfl)
theorem rdC_of {K : Nat} {w : World} {v : Value} {l : List Co} (h : RdSK K w 3 v (l.map Co.cells)) : RdC w v l := h.rd

end Go.Proofs.Ytnfjdoeemnhkbaa
