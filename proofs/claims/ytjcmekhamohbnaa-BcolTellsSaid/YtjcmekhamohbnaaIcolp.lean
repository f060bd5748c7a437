/-
  Contracts of layer 4: slices.BinarySearchFunc of numbers, by cmp.Compare.
  Contracts of layer 4: slices.SortFunc of numbers, by cmp.Compare.
  Contracts of layer 4: slices.SortFunc of any numbers.
  Contracts of layer 4: what the coder of numbers tells by a dictionary.
-/
import Derived.Test.YtjcmekhamohbnaaIcoli
import Derived.Test.YtjcmekhamohbnaaShl
import Derived.Shelf.SlSortCmp.Whole1
namespace Go.Proofs.Ytjcmekhamohbnaa
set_option linter.unusedVariables false
set_option linter.unusedSimpArgs false
open Go.RowKit

end Go.Proofs.Ytjcmekhamohbnaa

namespace Go.Proofs.Ytjcmekhamohbnaa
set_option linter.unusedVariables false
set_option linter.unusedSimpArgs false
open Go.RowKit

end Go.Proofs.Ytjcmekhamohbnaa

namespace Go.Proofs.Ytjcmekhamohbnaa
set_option linter.unusedVariables false
set_option linter.unusedSimpArgs false
open Go.RowKit

set_option maxRecDepth 100000 in
set_option maxHeartbeats 8000000 in
theorem len_zero (w : World) : Calls Try.prog 68 #[.int .u64 0] w fun e w' => e = .returned (.int .i64 0) ∧ w' = w := by
  have HL := Lib.hid (Try.bits_Len64 0 w (by omega) (by omega))
  go_enter Try.func68, Try.ntmps68
  go_wp2_with fail
  refine HL.out.mono ?_
  rintro e w2 ⟨rfl, rfl⟩
  go_wp2_with fail
  go_ret
  exact ⟨rfl, rfl⟩

end Go.Proofs.Ytjcmekhamohbnaa

namespace Go.Proofs.Ytjcmekhamohbnaa
set_option linter.unusedVariables false
set_option linter.unusedSimpArgs false
open Go.RowKit

theorem num_nil (q : Nat) (w : World) (hq : q ≤ 100000) : Calls Try.prog 36 #[.slice none 0 0, .int .u64 (q : Int)] w fun e w' => ∃ ao cap, e = .returned (.slice ao (numC q).length cap) ∧ OwnB w.heap.size w' (.slice ao (numC q).length cap) (numC q) ∧ Below w.heap.size w w' := by
  refine (num_any (.slice none 0 0) [] q w (Rd.nil w) (by decide) (by omega)).mono ?_
  rintro e w3 ⟨ao3, cap3, rfl, hown3, hb3⟩
  have e1 : ((([] : List Nat) ++ numC q).map u8v).length = (numC q).length := by simp
  rw [e1] at hown3
  rw [e1]
  exact ⟨ao3, cap3, rfl, OwnB.of (by simpa using hown3), hb3⟩

end Go.Proofs.Ytjcmekhamohbnaa
