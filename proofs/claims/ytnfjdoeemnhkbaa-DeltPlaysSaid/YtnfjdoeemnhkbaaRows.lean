/-
  NARROWER THAN 'FOR EVERY INPUT', by the rows' own cells (each row's printed sentence says how): ExprTells: loops.
  DERIVED. THE GIVEN ROWS OF THIS SEAT. 6 by the template 'for every input the law returns true; each argument reads behind the call as it read before'; 0 by the template 'total and deterministic' (their statements: YtnfjdoeemnhkbaaTotals.lean).
  GIVEN WITH THE SEED: the statements are not yours to turn. If you find one false, say at which input.
  Laid BY PROGRAM, IN A SANDBOX (cutbox-rows.mjs): the forced cells as the released guide's own fill.sh prints them over the translation 42b6b039a7024dab… (all of the seat's roots in one cut). By AI agents, Wed Nov 11 2026. No macro, syntax, notation, axiom, sorry.
-/
import Derived.Test.YtnfjdoeemnhkbaaChecked
import GoSem.Claim
import GoSem.ClaimJoined
import GoSem.ClaimMapViews
import Derived.JoinedTies
import Derived.KernelRfl
namespace Go.Proofs.Ytnfjdoeemnhkbaa
/- THE CELL 'sum', in the pinned program and in every row, IS THE sha256 OF THE DUMP (.gsa) THAT YtnfjdoeemnhkbaaProg.lean LOADS. Nothing in Lean hashes anything: it is a label: what it is worth is what the hold of that sum in a sandbox is worth. -/
noncomputable def Try.pinned : Pinned := { name := "ytnfjdoeemnhkbaa", sum := "42b6b039a7024dab02c6d0113b410dbd7b90acfda4370023c0fa7f6e64d94e6c", checked := Try.checked }
namespace Rows
def none {H : Type} : Left H := { results := [], args := [] }

/-- 'colonnadelaw16.AggrParts': WHATEVER THE INPUT: true; the input reads as it did. -/
def aggrPartsSpec : ChangeSpec := { name := "aggrParts", fn := fun _ => fun
  | [d1, d2, d3] => { results := [.lit (.bool true)], args := [d1, d2, d3] }
  | _ => none }
def aggrPartsRow : OpenClaim := { program := "ytnfjdoeemnhkbaa", sum := "42b6b039a7024dab02c6d0113b410dbd7b90acfda4370023c0fa7f6e64d94e6c", func := "colonnade/colonnadelaw16.AggrParts", spec := "aggrParts", inPlace := ["internal/bytealg.Compare", "math/bits.Add64"], unfollowed := true, recurses := true, apart := false }
def AggrPartsSaid : Prop := aggrPartsRow.holds Try.pinned (OpenSpec.ofChange aggrPartsSpec)

/-- ITS FALSE NEIGHBOUR: 'it returns false'. Refute it at one input. -/
def aggrPartsWrong : ChangeSpec := { name := "aggrParts", fn := fun _ => fun
  | [d1, d2, d3] => { results := [.lit (.bool false)], args := [d1, d2, d3] }
  | _ => none }
def AggrPartsWrongFalsely : Prop := aggrPartsRow.holds Try.pinned (OpenSpec.ofChange aggrPartsWrong)

/-- 'colonnadelaw16.AggrOwn': WHATEVER THE INPUT: true; the input reads as it did. -/
def aggrOwnSpec : ChangeSpec := { name := "aggrOwn", fn := fun _ => fun
  | [d1, d2] => { results := [.lit (.bool true)], args := [d1, d2] }
  | _ => none }
def aggrOwnRow : OpenClaim := { program := "ytnfjdoeemnhkbaa", sum := "42b6b039a7024dab02c6d0113b410dbd7b90acfda4370023c0fa7f6e64d94e6c", func := "colonnade/colonnadelaw16.AggrOwn", spec := "aggrOwn", inPlace := ["internal/bytealg.Compare", "math/bits.Add64"], unfollowed := true, recurses := true, apart := false }
def AggrOwnSaid : Prop := aggrOwnRow.holds Try.pinned (OpenSpec.ofChange aggrOwnSpec)

/-- ITS FALSE NEIGHBOUR: 'it returns false'. Refute it at one input. -/
def aggrOwnWrong : ChangeSpec := { name := "aggrOwn", fn := fun _ => fun
  | [d1, d2] => { results := [.lit (.bool false)], args := [d1, d2] }
  | _ => none }
def AggrOwnWrongFalsely : Prop := aggrOwnRow.holds Try.pinned (OpenSpec.ofChange aggrOwnWrong)

/-- 'colonnadelaw16.AggrMixed': WHATEVER THE INPUT: true; the input reads as it did. -/
def aggrMixedSpec : ChangeSpec := { name := "aggrMixed", fn := fun _ => fun
  | [d1, d2, d3, d4] => { results := [.lit (.bool true)], args := [d1, d2, d3, d4] }
  | _ => none }
def aggrMixedRow : OpenClaim := { program := "ytnfjdoeemnhkbaa", sum := "42b6b039a7024dab02c6d0113b410dbd7b90acfda4370023c0fa7f6e64d94e6c", func := "colonnade/colonnadelaw16.AggrMixed", spec := "aggrMixed", inPlace := ["internal/bytealg.Compare", "math/bits.Add64"], unfollowed := true, recurses := true, apart := false }
def AggrMixedSaid : Prop := aggrMixedRow.holds Try.pinned (OpenSpec.ofChange aggrMixedSpec)

/-- ITS FALSE NEIGHBOUR: 'it returns false'. Refute it at one input. -/
def aggrMixedWrong : ChangeSpec := { name := "aggrMixed", fn := fun _ => fun
  | [d1, d2, d3, d4] => { results := [.lit (.bool false)], args := [d1, d2, d3, d4] }
  | _ => none }
def AggrMixedWrongFalsely : Prop := aggrMixedRow.holds Try.pinned (OpenSpec.ofChange aggrMixedWrong)

/-- 'colonnadelaw16.AggrTells': WHATEVER THE INPUT: true; the input reads as it did. -/
def aggrTellsSpec : ChangeSpec := { name := "aggrTells", fn := fun _ => fun
  | [d1, d2, d3, d4, d5, d6] => { results := [.lit (.bool true)], args := [d1, d2, d3, d4, d5, d6] }
  | _ => none }
def aggrTellsRow : OpenClaim := { program := "ytnfjdoeemnhkbaa", sum := "42b6b039a7024dab02c6d0113b410dbd7b90acfda4370023c0fa7f6e64d94e6c", func := "colonnade/colonnadelaw16.AggrTells", spec := "aggrTells", inPlace := ["internal/bytealg.Compare", "math/bits.Add64"], unfollowed := true, recurses := true, apart := false }
def AggrTellsSaid : Prop := aggrTellsRow.holds Try.pinned (OpenSpec.ofChange aggrTellsSpec)

/-- ITS FALSE NEIGHBOUR: 'it returns false'. Refute it at one input. -/
def aggrTellsWrong : ChangeSpec := { name := "aggrTells", fn := fun _ => fun
  | [d1, d2, d3, d4, d5, d6] => { results := [.lit (.bool false)], args := [d1, d2, d3, d4, d5, d6] }
  | _ => none }
def AggrTellsWrongFalsely : Prop := aggrTellsRow.holds Try.pinned (OpenSpec.ofChange aggrTellsWrong)

/-- 'colonnadelaw15.ExprTells': WHATEVER THE INPUT: true; the input reads as it did. -/
def exprTellsSpec : ChangeSpec := { name := "exprTells", fn := fun _ => fun
  | [d1, d2, d3, d4, d5] => { results := [.lit (.bool true)], args := [d1, d2, d3, d4, d5] }
  | _ => none }
def exprTellsRow : OpenClaim := { program := "ytnfjdoeemnhkbaa", sum := "42b6b039a7024dab02c6d0113b410dbd7b90acfda4370023c0fa7f6e64d94e6c", func := "colonnade/colonnadelaw15.ExprTells", spec := "exprTells", unfollowed := true, recurses := true, loops := true, apart := false }
def ExprTellsSaid : Prop := exprTellsRow.holds Try.pinned (OpenSpec.ofChange exprTellsSpec)

/-- ITS FALSE NEIGHBOUR: 'it returns false'. Refute it at one input. -/
def exprTellsWrong : ChangeSpec := { name := "exprTells", fn := fun _ => fun
  | [d1, d2, d3, d4, d5] => { results := [.lit (.bool false)], args := [d1, d2, d3, d4, d5] }
  | _ => none }
def ExprTellsWrongFalsely : Prop := exprTellsRow.holds Try.pinned (OpenSpec.ofChange exprTellsWrong)

/-- 'colonnadelaw12.DeltPlays': WHATEVER THE INPUT: true; the input reads as it did. -/
def deltPlaysSpec : ChangeSpec := { name := "deltPlays", fn := fun _ => fun
  | [d1, d2] => { results := [.lit (.bool true)], args := [d1, d2] }
  | _ => none }
def deltPlaysRow : OpenClaim := { program := "ytnfjdoeemnhkbaa", sum := "42b6b039a7024dab02c6d0113b410dbd7b90acfda4370023c0fa7f6e64d94e6c", func := "colonnade/colonnadelaw12.DeltPlays", spec := "deltPlays", inPlace := ["slices.overlaps[colonnade/api.Version]"], unfollowed := true, recurses := true, apart := false }
def DeltPlaysSaid : Prop := deltPlaysRow.holds Try.pinned (OpenSpec.ofChange deltPlaysSpec)

/-- ITS FALSE NEIGHBOUR: 'it returns false'. Refute it at one input. -/
def deltPlaysWrong : ChangeSpec := { name := "deltPlays", fn := fun _ => fun
  | [d1, d2] => { results := [.lit (.bool false)], args := [d1, d2] }
  | _ => none }
def DeltPlaysWrongFalsely : Prop := deltPlaysRow.holds Try.pinned (OpenSpec.ofChange deltPlaysWrong)

/- THE SECOND FORM. 'bulk': how many values and letters a reading holds, each counted each time it is reached (what is shared counts as often as it is met; a slice's spare places count too). A statement '..UptoSaid' is the law's where the arguments, and the package variables that the reading takes, are together of bulk at most 1048576: NARROWER than '..Said'. Prove '..Said' where nothing that the law and all that it calls make is longer than what came in: it says more and counts as full. Else prove '..UptoSaid'. A law counts once. -/
mutual
def uptoBulk {H : Type} : DataW H → Nat
  | .lit (.string bytes) => bytes.length + 1
  | .lit _ => 1
  | .nil => 1
  | .ptr d => uptoBulk d + 1
  | .slice elems spare => uptoBulkAll elems + uptoBulkAll spare + 1
  | .agg parts => uptoBulkAll parts + 1
  | .iface _ d => uptoBulk d + 1
  | .map entries => uptoBulkEntries entries + 1
  | .held _ => 1
def uptoBulkAll {H : Type} : List (DataW H) → Nat
  | [] => 0
  | d :: r => uptoBulk d + uptoBulkAll r
def uptoBulkEntries {H : Type} : List (Lit × DataW H) → Nat
  | [] => 0
  | x :: r => uptoBulkEntry x + uptoBulkEntries r
def uptoBulkEntry {H : Type} : Lit × DataW H → Nat
  | (.string bytes, d) => bytes.length + uptoBulk d + 1
  | (_, d) => uptoBulk d + 1
 end
def uptoSmall : (H : Type) → List (DataW H) → Bool := fun _ ds => decide (uptoBulkAll ds ≤ 1048576)
def OpenSpec.upto (s : _root_.Go.ChangeSpec) : _root_.Go.OpenSpec := { _root_.Go.OpenSpec.ofChange s with cond := some uptoSmall }

/-- 'colonnadelaw16.AggrParts', WHERE WHAT IT READS IS OF BULK AT MOST 1048576: true; the input reads as it did. -/
def aggrPartsUptoRow : OpenClaim := { program := "ytnfjdoeemnhkbaa", sum := "42b6b039a7024dab02c6d0113b410dbd7b90acfda4370023c0fa7f6e64d94e6c", func := "colonnade/colonnadelaw16.AggrParts", spec := "aggrParts", inPlace := ["internal/bytealg.Compare", "math/bits.Add64"], unfollowed := true, recurses := true, apart := false, narrowed := true }
def AggrPartsUptoSaid : Prop := aggrPartsUptoRow.holds Try.pinned (OpenSpec.upto aggrPartsSpec)

/-- 'colonnadelaw16.AggrOwn', WHERE WHAT IT READS IS OF BULK AT MOST 1048576: true; the input reads as it did. -/
def aggrOwnUptoRow : OpenClaim := { program := "ytnfjdoeemnhkbaa", sum := "42b6b039a7024dab02c6d0113b410dbd7b90acfda4370023c0fa7f6e64d94e6c", func := "colonnade/colonnadelaw16.AggrOwn", spec := "aggrOwn", inPlace := ["internal/bytealg.Compare", "math/bits.Add64"], unfollowed := true, recurses := true, apart := false, narrowed := true }
def AggrOwnUptoSaid : Prop := aggrOwnUptoRow.holds Try.pinned (OpenSpec.upto aggrOwnSpec)

/-- 'colonnadelaw16.AggrMixed', WHERE WHAT IT READS IS OF BULK AT MOST 1048576: true; the input reads as it did. -/
def aggrMixedUptoRow : OpenClaim := { program := "ytnfjdoeemnhkbaa", sum := "42b6b039a7024dab02c6d0113b410dbd7b90acfda4370023c0fa7f6e64d94e6c", func := "colonnade/colonnadelaw16.AggrMixed", spec := "aggrMixed", inPlace := ["internal/bytealg.Compare", "math/bits.Add64"], unfollowed := true, recurses := true, apart := false, narrowed := true }
def AggrMixedUptoSaid : Prop := aggrMixedUptoRow.holds Try.pinned (OpenSpec.upto aggrMixedSpec)

/-- 'colonnadelaw16.AggrTells', WHERE WHAT IT READS IS OF BULK AT MOST 1048576: true; the input reads as it did. -/
def aggrTellsUptoRow : OpenClaim := { program := "ytnfjdoeemnhkbaa", sum := "42b6b039a7024dab02c6d0113b410dbd7b90acfda4370023c0fa7f6e64d94e6c", func := "colonnade/colonnadelaw16.AggrTells", spec := "aggrTells", inPlace := ["internal/bytealg.Compare", "math/bits.Add64"], unfollowed := true, recurses := true, apart := false, narrowed := true }
def AggrTellsUptoSaid : Prop := aggrTellsUptoRow.holds Try.pinned (OpenSpec.upto aggrTellsSpec)

/-- 'colonnadelaw15.ExprTells', WHERE WHAT IT READS IS OF BULK AT MOST 1048576: true; the input reads as it did. -/
def exprTellsUptoRow : OpenClaim := { program := "ytnfjdoeemnhkbaa", sum := "42b6b039a7024dab02c6d0113b410dbd7b90acfda4370023c0fa7f6e64d94e6c", func := "colonnade/colonnadelaw15.ExprTells", spec := "exprTells", unfollowed := true, recurses := true, loops := true, apart := false, narrowed := true }
def ExprTellsUptoSaid : Prop := exprTellsUptoRow.holds Try.pinned (OpenSpec.upto exprTellsSpec)

/-- 'colonnadelaw12.DeltPlays', WHERE WHAT IT READS IS OF BULK AT MOST 1048576: true; the input reads as it did. -/
def deltPlaysUptoRow : OpenClaim := { program := "ytnfjdoeemnhkbaa", sum := "42b6b039a7024dab02c6d0113b410dbd7b90acfda4370023c0fa7f6e64d94e6c", func := "colonnade/colonnadelaw12.DeltPlays", spec := "deltPlays", inPlace := ["slices.overlaps[colonnade/api.Version]"], unfollowed := true, recurses := true, apart := false, narrowed := true }
def DeltPlaysUptoSaid : Prop := deltPlaysUptoRow.holds Try.pinned (OpenSpec.upto deltPlaysSpec)

end Rows
end Go.Proofs.Ytnfjdoeemnhkbaa
