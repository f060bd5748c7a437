/-
  What the document fixes of layer 1, walked.
  What the document fixes of layer 2, walked.
-/
import Derived.Test.YtjcmekhamohbnaaUnpack
import Derived.Test.YtjcmekhamohbnaaWidth
import Derived.Test.YtjcmekhamohbnaaAt
import Derived.Test.YtjcmekhamohbnaaSpare
import Derived.Test.YtjcmekhamohbnaaReadg
import Derived.Test.YtjcmekhamohbnaaZig
import Derived.Test.YtjcmekhamohbnaaLone
import Derived.Lib.SlBytesConst
namespace Go.Proofs.Ytjcmekhamohbnaa
set_option linter.unusedVariables false
open Go.RowKit

theorem lt256 (l : List Nat) (h : ∀ x ∈ l, x < 256) (i : Nat) : l.getD i 0 < 256 := by
  rw [List.getD_eq_getElem?_getD]
  by_cases hi : i < l.length
  · rw [List.getElem?_eq_getElem hi]; exact h _ (List.getElem_mem hi)
  · rw [List.getElem?_eq_none (by omega)]; decide

theorem lt64 (l : List Nat) (h : ∀ x ∈ l, x < 18446744073709551616) (i : Nat) : l.getD i 0 < 18446744073709551616 := by
  rw [List.getD_eq_getElem?_getD]
  by_cases hi : i < l.length
  · rw [List.getElem?_eq_getElem hi]; exact h _ (List.getElem_mem hi)
  · rw [List.getElem?_eq_none (by omega)]; decide

end Go.Proofs.Ytjcmekhamohbnaa

namespace Go.Proofs.Ytjcmekhamohbnaa
set_option linter.unusedVariables false
open Go.RowKit

theorem rd_grown {w w' : World} {v : Value} {xs : List Value} {r : Nat} (h : Rd w v xs) (hg : w.grownBy w' (some r)) (hne : v.ownBlock ≠ some r) : Rd w' v xs := by
  obtain ⟨ao, cap, hv, hcap, hc⟩ := h
  refine ⟨ao, cap, hv, hcap, fun hp => ?_⟩
  obtain ⟨b, off, ha, hcell⟩ := hc hp
  refine ⟨b, off, ha, fun i hi => ?_⟩
  refine hg.cell (hcell i hi) ?_
  rw [hv, ha] at hne
  exact hne

end Go.Proofs.Ytjcmekhamohbnaa
