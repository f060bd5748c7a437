/-
  No cell of these rows narrows 'for every input' (looked for: loops, veiled, ifaces, maps, wideKeys, modest, calm, conditions, laid).
  DERIVED. THE GIVEN ROWS OF THIS SEAT. 12 by the template 'for every input the law returns true; each argument reads behind the call as it read before'; 0 by the template 'total and deterministic' (their statements: YtfmkalnnpddefaaTotals.lean).
  GIVEN WITH THE SEED: the statements are not yours to turn. If you find one false, say at which input.
  Laid BY PROGRAM, IN A SANDBOX (cutbox-rows.mjs): the forced cells as the released guide's own fill.sh prints them over the translation b693d9e0d8fb1aac… (all of the seat's roots in one cut). By AI agents, Wed Nov 11 2026. No macro, syntax, notation, axiom, sorry.
-/
import Derived.Test.YtfmkalnnpddefaaChecked
import GoSem.Claim
import GoSem.ClaimJoined
import GoSem.ClaimMapViews
import Derived.JoinedTies
import Derived.KernelRfl
namespace Go.Proofs.Ytfmkalnnpddefaa
/- THE CELL 'sum', in the pinned program and in every row, IS THE sha256 OF THE DUMP (.gsa) THAT YtfmkalnnpddefaaProg.lean LOADS. Nothing in Lean hashes anything: it is a label: what it is worth is what the hold of that sum in a sandbox is worth. -/
noncomputable def Try.pinned : Pinned := { name := "ytfmkalnnpddefaa", sum := "b693d9e0d8fb1aac8aab591bfb9d34b92cfb1b55f36b1bfc364ba9040575c004", checked := Try.checked }
namespace Rows
def none {H : Type} : Left H := { results := [], args := [] }

/-- 'colonnadelaw7.PredDeep': WHATEVER THE INPUT: true; the input reads as it did. -/
def predDeepSpec : ChangeSpec := { name := "predDeep", fn := fun _ => fun
  | [d1, d2, d3] => { results := [.lit (.bool true)], args := [d1, d2, d3] }
  | _ => none }
def predDeepRow : OpenClaim := { program := "ytfmkalnnpddefaa", sum := "b693d9e0d8fb1aac8aab591bfb9d34b92cfb1b55f36b1bfc364ba9040575c004", func := "colonnade/colonnadelaw7.PredDeep", spec := "predDeep", inPlace := ["internal/bytealg.Compare"], unfollowed := true, recurses := true, apart := false }
def PredDeepSaid : Prop := predDeepRow.holds Try.pinned (OpenSpec.ofChange predDeepSpec)

/-- ITS FALSE NEIGHBOUR: 'it returns false'. Refute it at one input. -/
def predDeepWrong : ChangeSpec := { name := "predDeep", fn := fun _ => fun
  | [d1, d2, d3] => { results := [.lit (.bool false)], args := [d1, d2, d3] }
  | _ => none }
def PredDeepWrongFalsely : Prop := predDeepRow.holds Try.pinned (OpenSpec.ofChange predDeepWrong)

/-- 'colonnadelaw8.NormKeys': WHATEVER THE INPUT: true; the input reads as it did. -/
def normKeysSpec : ChangeSpec := { name := "normKeys", fn := fun _ => fun
  | [d1, d2, d3, d4] => { results := [.lit (.bool true)], args := [d1, d2, d3, d4] }
  | _ => none }
def normKeysRow : OpenClaim := { program := "ytfmkalnnpddefaa", sum := "b693d9e0d8fb1aac8aab591bfb9d34b92cfb1b55f36b1bfc364ba9040575c004", func := "colonnade/colonnadelaw8.NormKeys", spec := "normKeys", unfollowed := true, recurses := true, apart := false }
def NormKeysSaid : Prop := normKeysRow.holds Try.pinned (OpenSpec.ofChange normKeysSpec)

/-- ITS FALSE NEIGHBOUR: 'it returns false'. Refute it at one input. -/
def normKeysWrong : ChangeSpec := { name := "normKeys", fn := fun _ => fun
  | [d1, d2, d3, d4] => { results := [.lit (.bool false)], args := [d1, d2, d3, d4] }
  | _ => none }
def NormKeysWrongFalsely : Prop := normKeysRow.holds Try.pinned (OpenSpec.ofChange normKeysWrong)

/-- 'colonnadelaw8.NormTwice': WHATEVER THE INPUT: true; the input reads as it did. -/
def normTwiceSpec : ChangeSpec := { name := "normTwice", fn := fun _ => fun
  | [d1, d2] => { results := [.lit (.bool true)], args := [d1, d2] }
  | _ => none }
def normTwiceRow : OpenClaim := { program := "ytfmkalnnpddefaa", sum := "b693d9e0d8fb1aac8aab591bfb9d34b92cfb1b55f36b1bfc364ba9040575c004", func := "colonnade/colonnadelaw8.NormTwice", spec := "normTwice", unfollowed := true, recurses := true, apart := false }
def NormTwiceSaid : Prop := normTwiceRow.holds Try.pinned (OpenSpec.ofChange normTwiceSpec)

/-- ITS FALSE NEIGHBOUR: 'it returns false'. Refute it at one input. -/
def normTwiceWrong : ChangeSpec := { name := "normTwice", fn := fun _ => fun
  | [d1, d2] => { results := [.lit (.bool false)], args := [d1, d2] }
  | _ => none }
def NormTwiceWrongFalsely : Prop := normTwiceRow.holds Try.pinned (OpenSpec.ofChange normTwiceWrong)

/-- 'colonnadelaw8.NormTells': WHATEVER THE INPUT: true; the input reads as it did. -/
def normTellsSpec : ChangeSpec := { name := "normTells", fn := fun _ => fun
  | [d1, d2, d3] => { results := [.lit (.bool true)], args := [d1, d2, d3] }
  | _ => none }
def normTellsRow : OpenClaim := { program := "ytfmkalnnpddefaa", sum := "b693d9e0d8fb1aac8aab591bfb9d34b92cfb1b55f36b1bfc364ba9040575c004", func := "colonnade/colonnadelaw8.NormTells", spec := "normTells", unfollowed := true, recurses := true, apart := false }
def NormTellsSaid : Prop := normTellsRow.holds Try.pinned (OpenSpec.ofChange normTellsSpec)

/-- ITS FALSE NEIGHBOUR: 'it returns false'. Refute it at one input. -/
def normTellsWrong : ChangeSpec := { name := "normTells", fn := fun _ => fun
  | [d1, d2, d3] => { results := [.lit (.bool false)], args := [d1, d2, d3] }
  | _ => none }
def NormTellsWrongFalsely : Prop := normTellsRow.holds Try.pinned (OpenSpec.ofChange normTellsWrong)

/-- 'colonnadelaw15.ExprMany': WHATEVER THE INPUT: true; the input reads as it did. -/
def exprManySpec : ChangeSpec := { name := "exprMany", fn := fun _ => fun
  | [d1, d2, d3] => { results := [.lit (.bool true)], args := [d1, d2, d3] }
  | _ => none }
def exprManyRow : OpenClaim := { program := "ytfmkalnnpddefaa", sum := "b693d9e0d8fb1aac8aab591bfb9d34b92cfb1b55f36b1bfc364ba9040575c004", func := "colonnade/colonnadelaw15.ExprMany", spec := "exprMany", unfollowed := true, recurses := true, apart := false }
def ExprManySaid : Prop := exprManyRow.holds Try.pinned (OpenSpec.ofChange exprManySpec)

/-- ITS FALSE NEIGHBOUR: 'it returns false'. Refute it at one input. -/
def exprManyWrong : ChangeSpec := { name := "exprMany", fn := fun _ => fun
  | [d1, d2, d3] => { results := [.lit (.bool false)], args := [d1, d2, d3] }
  | _ => none }
def ExprManyWrongFalsely : Prop := exprManyRow.holds Try.pinned (OpenSpec.ofChange exprManyWrong)

/-- 'colonnadelaw12.DeltOwn': WHATEVER THE INPUT: true; the input reads as it did. -/
def deltOwnSpec : ChangeSpec := { name := "deltOwn", fn := fun _ => fun
  | [d1, d2] => { results := [.lit (.bool true)], args := [d1, d2] }
  | _ => none }
def deltOwnRow : OpenClaim := { program := "ytfmkalnnpddefaa", sum := "b693d9e0d8fb1aac8aab591bfb9d34b92cfb1b55f36b1bfc364ba9040575c004", func := "colonnade/colonnadelaw12.DeltOwn", spec := "deltOwn", inPlace := ["slices.overlaps[colonnade/api.Version]"], unfollowed := true, recurses := true, apart := false }
def DeltOwnSaid : Prop := deltOwnRow.holds Try.pinned (OpenSpec.ofChange deltOwnSpec)

/-- ITS FALSE NEIGHBOUR: 'it returns false'. Refute it at one input. -/
def deltOwnWrong : ChangeSpec := { name := "deltOwn", fn := fun _ => fun
  | [d1, d2] => { results := [.lit (.bool false)], args := [d1, d2] }
  | _ => none }
def DeltOwnWrongFalsely : Prop := deltOwnRow.holds Try.pinned (OpenSpec.ofChange deltOwnWrong)

/-- 'colonnadelaw12.DeltRoom': WHATEVER THE INPUT: true; the input reads as it did. -/
def deltRoomSpec : ChangeSpec := { name := "deltRoom", fn := fun _ => fun
  | [d] => { results := [.lit (.bool true)], args := [d] }
  | _ => none }
def deltRoomRow : OpenClaim := { program := "ytfmkalnnpddefaa", sum := "b693d9e0d8fb1aac8aab591bfb9d34b92cfb1b55f36b1bfc364ba9040575c004", func := "colonnade/colonnadelaw12.DeltRoom", spec := "deltRoom", inPlace := ["slices.overlaps[colonnade/api.Version]"], unfollowed := true, recurses := true, apart := false }
def DeltRoomSaid : Prop := deltRoomRow.holds Try.pinned (OpenSpec.ofChange deltRoomSpec)

/-- ITS FALSE NEIGHBOUR: 'it returns false'. Refute it at one input. -/
def deltRoomWrong : ChangeSpec := { name := "deltRoom", fn := fun _ => fun
  | [d] => { results := [.lit (.bool false)], args := [d] }
  | _ => none }
def DeltRoomWrongFalsely : Prop := deltRoomRow.holds Try.pinned (OpenSpec.ofChange deltRoomWrong)

/-- 'colonnadelaw4.IcolFar': WHATEVER THE INPUT: true; the input reads as it did. -/
def icolFarSpec : ChangeSpec := { name := "icolFar", fn := fun _ => fun
  | [d] => { results := [.lit (.bool true)], args := [d] }
  | _ => none }
def icolFarRow : OpenClaim := { program := "ytfmkalnnpddefaa", sum := "b693d9e0d8fb1aac8aab591bfb9d34b92cfb1b55f36b1bfc364ba9040575c004", func := "colonnade/colonnadelaw4.IcolFar", spec := "icolFar", unfollowed := true, recurses := true, apart := false }
def IcolFarSaid : Prop := icolFarRow.holds Try.pinned (OpenSpec.ofChange icolFarSpec)

/-- ITS FALSE NEIGHBOUR: 'it returns false'. Refute it at one input. -/
def icolFarWrong : ChangeSpec := { name := "icolFar", fn := fun _ => fun
  | [d] => { results := [.lit (.bool false)], args := [d] }
  | _ => none }
def IcolFarWrongFalsely : Prop := icolFarRow.holds Try.pinned (OpenSpec.ofChange icolFarWrong)

/-- 'colonnadelaw4.IcolBack': WHATEVER THE INPUT: true; the input reads as it did. -/
def icolBackSpec : ChangeSpec := { name := "icolBack", fn := fun _ => fun
  | [d1, d2] => { results := [.lit (.bool true)], args := [d1, d2] }
  | _ => none }
def icolBackRow : OpenClaim := { program := "ytfmkalnnpddefaa", sum := "b693d9e0d8fb1aac8aab591bfb9d34b92cfb1b55f36b1bfc364ba9040575c004", func := "colonnade/colonnadelaw4.IcolBack", spec := "icolBack", unfollowed := true, recurses := true, apart := false }
def IcolBackSaid : Prop := icolBackRow.holds Try.pinned (OpenSpec.ofChange icolBackSpec)

/-- ITS FALSE NEIGHBOUR: 'it returns false'. Refute it at one input. -/
def icolBackWrong : ChangeSpec := { name := "icolBack", fn := fun _ => fun
  | [d1, d2] => { results := [.lit (.bool false)], args := [d1, d2] }
  | _ => none }
def IcolBackWrongFalsely : Prop := icolBackRow.holds Try.pinned (OpenSpec.ofChange icolBackWrong)

/-- 'colonnadelaw4.IcolBest': WHATEVER THE INPUT: true; the input reads as it did. -/
def icolBestSpec : ChangeSpec := { name := "icolBest", fn := fun _ => fun
  | [d1, d2, d3] => { results := [.lit (.bool true)], args := [d1, d2, d3] }
  | _ => none }
def icolBestRow : OpenClaim := { program := "ytfmkalnnpddefaa", sum := "b693d9e0d8fb1aac8aab591bfb9d34b92cfb1b55f36b1bfc364ba9040575c004", func := "colonnade/colonnadelaw4.IcolBest", spec := "icolBest", unfollowed := true, recurses := true, apart := false }
def IcolBestSaid : Prop := icolBestRow.holds Try.pinned (OpenSpec.ofChange icolBestSpec)

/-- ITS FALSE NEIGHBOUR: 'it returns false'. Refute it at one input. -/
def icolBestWrong : ChangeSpec := { name := "icolBest", fn := fun _ => fun
  | [d1, d2, d3] => { results := [.lit (.bool false)], args := [d1, d2, d3] }
  | _ => none }
def IcolBestWrongFalsely : Prop := icolBestRow.holds Try.pinned (OpenSpec.ofChange icolBestWrong)

/-- 'colonnadelaw16.AggrParts': WHATEVER THE INPUT: true; the input reads as it did. -/
def aggrPartsSpec : ChangeSpec := { name := "aggrParts", fn := fun _ => fun
  | [d1, d2, d3] => { results := [.lit (.bool true)], args := [d1, d2, d3] }
  | _ => none }
def aggrPartsRow : OpenClaim := { program := "ytfmkalnnpddefaa", sum := "b693d9e0d8fb1aac8aab591bfb9d34b92cfb1b55f36b1bfc364ba9040575c004", func := "colonnade/colonnadelaw16.AggrParts", spec := "aggrParts", inPlace := ["internal/bytealg.Compare", "math/bits.Add64"], unfollowed := true, recurses := true, apart := false }
def AggrPartsSaid : Prop := aggrPartsRow.holds Try.pinned (OpenSpec.ofChange aggrPartsSpec)

/-- ITS FALSE NEIGHBOUR: 'it returns false'. Refute it at one input. -/
def aggrPartsWrong : ChangeSpec := { name := "aggrParts", fn := fun _ => fun
  | [d1, d2, d3] => { results := [.lit (.bool false)], args := [d1, d2, d3] }
  | _ => none }
def AggrPartsWrongFalsely : Prop := aggrPartsRow.holds Try.pinned (OpenSpec.ofChange aggrPartsWrong)

/-- 'colonnadelaw16.AggrOwn': WHATEVER THE INPUT: true; the input reads as it did. -/
def aggrOwnSpec : ChangeSpec := { name := "aggrOwn", fn := fun _ => fun
  | [d1, d2] => { results := [.lit (.bool true)], args := [d1, d2] }
  | _ => none }
def aggrOwnRow : OpenClaim := { program := "ytfmkalnnpddefaa", sum := "b693d9e0d8fb1aac8aab591bfb9d34b92cfb1b55f36b1bfc364ba9040575c004", func := "colonnade/colonnadelaw16.AggrOwn", spec := "aggrOwn", inPlace := ["internal/bytealg.Compare", "math/bits.Add64"], unfollowed := true, recurses := true, apart := false }
def AggrOwnSaid : Prop := aggrOwnRow.holds Try.pinned (OpenSpec.ofChange aggrOwnSpec)

/-- ITS FALSE NEIGHBOUR: 'it returns false'. Refute it at one input. -/
def aggrOwnWrong : ChangeSpec := { name := "aggrOwn", fn := fun _ => fun
  | [d1, d2] => { results := [.lit (.bool false)], args := [d1, d2] }
  | _ => none }
def AggrOwnWrongFalsely : Prop := aggrOwnRow.holds Try.pinned (OpenSpec.ofChange aggrOwnWrong)

/- THE SECOND FORM. 'bulk': how many values and letters a reading holds, each counted each time it is reached (what is shared counts as often as it is met; a slice's spare places count too). A statement '..UptoSaid' is the law's where the arguments, and the package variables that the reading takes, are together of bulk at most 1048576: NARROWER than '..Said'. Prove '..Said' where nothing that the law and all that it calls make is longer than what came in: it says more and counts as full. Else prove '..UptoSaid'. A law counts once. -/
mutual
def uptoBulk {H : Type} : DataW H → Nat
  | .lit (.string bytes) => bytes.length + 1
  | .lit _ => 1
  | .nil => 1
  | .ptr d => uptoBulk d + 1
  | .slice elems spare => uptoBulkAll elems + uptoBulkAll spare + 1
  | .agg parts => uptoBulkAll parts + 1
  | .iface _ d => uptoBulk d + 1
  | .map entries => uptoBulkEntries entries + 1
  | .held _ => 1
def uptoBulkAll {H : Type} : List (DataW H) → Nat
  | [] => 0
  | d :: r => uptoBulk d + uptoBulkAll r
def uptoBulkEntries {H : Type} : List (Lit × DataW H) → Nat
  | [] => 0
  | x :: r => uptoBulkEntry x + uptoBulkEntries r
def uptoBulkEntry {H : Type} : Lit × DataW H → Nat
  | (.string bytes, d) => bytes.length + uptoBulk d + 1
  | (_, d) => uptoBulk d + 1
 end
def uptoSmall : (H : Type) → List (DataW H) → Bool := fun _ ds => decide (uptoBulkAll ds ≤ 1048576)
def OpenSpec.upto (s : _root_.Go.ChangeSpec) : _root_.Go.OpenSpec := { _root_.Go.OpenSpec.ofChange s with cond := some uptoSmall }

/-- 'colonnadelaw7.PredDeep', WHERE WHAT IT READS IS OF BULK AT MOST 1048576: true; the input reads as it did. -/
def predDeepUptoRow : OpenClaim := { program := "ytfmkalnnpddefaa", sum := "b693d9e0d8fb1aac8aab591bfb9d34b92cfb1b55f36b1bfc364ba9040575c004", func := "colonnade/colonnadelaw7.PredDeep", spec := "predDeep", inPlace := ["internal/bytealg.Compare"], unfollowed := true, recurses := true, apart := false, narrowed := true }
def PredDeepUptoSaid : Prop := predDeepUptoRow.holds Try.pinned (OpenSpec.upto predDeepSpec)

/-- 'colonnadelaw8.NormKeys', WHERE WHAT IT READS IS OF BULK AT MOST 1048576: true; the input reads as it did. -/
def normKeysUptoRow : OpenClaim := { program := "ytfmkalnnpddefaa", sum := "b693d9e0d8fb1aac8aab591bfb9d34b92cfb1b55f36b1bfc364ba9040575c004", func := "colonnade/colonnadelaw8.NormKeys", spec := "normKeys", unfollowed := true, recurses := true, apart := false, narrowed := true }
def NormKeysUptoSaid : Prop := normKeysUptoRow.holds Try.pinned (OpenSpec.upto normKeysSpec)

/-- 'colonnadelaw8.NormTwice', WHERE WHAT IT READS IS OF BULK AT MOST 1048576: true; the input reads as it did. -/
def normTwiceUptoRow : OpenClaim := { program := "ytfmkalnnpddefaa", sum := "b693d9e0d8fb1aac8aab591bfb9d34b92cfb1b55f36b1bfc364ba9040575c004", func := "colonnade/colonnadelaw8.NormTwice", spec := "normTwice", unfollowed := true, recurses := true, apart := false, narrowed := true }
def NormTwiceUptoSaid : Prop := normTwiceUptoRow.holds Try.pinned (OpenSpec.upto normTwiceSpec)

/-- 'colonnadelaw8.NormTells', WHERE WHAT IT READS IS OF BULK AT MOST 1048576: true; the input reads as it did. -/
def normTellsUptoRow : OpenClaim := { program := "ytfmkalnnpddefaa", sum := "b693d9e0d8fb1aac8aab591bfb9d34b92cfb1b55f36b1bfc364ba9040575c004", func := "colonnade/colonnadelaw8.NormTells", spec := "normTells", unfollowed := true, recurses := true, apart := false, narrowed := true }
def NormTellsUptoSaid : Prop := normTellsUptoRow.holds Try.pinned (OpenSpec.upto normTellsSpec)

/-- 'colonnadelaw15.ExprMany', WHERE WHAT IT READS IS OF BULK AT MOST 1048576: true; the input reads as it did. -/
def exprManyUptoRow : OpenClaim := { program := "ytfmkalnnpddefaa", sum := "b693d9e0d8fb1aac8aab591bfb9d34b92cfb1b55f36b1bfc364ba9040575c004", func := "colonnade/colonnadelaw15.ExprMany", spec := "exprMany", unfollowed := true, recurses := true, apart := false, narrowed := true }
def ExprManyUptoSaid : Prop := exprManyUptoRow.holds Try.pinned (OpenSpec.upto exprManySpec)

/-- 'colonnadelaw12.DeltOwn', WHERE WHAT IT READS IS OF BULK AT MOST 1048576: true; the input reads as it did. -/
def deltOwnUptoRow : OpenClaim := { program := "ytfmkalnnpddefaa", sum := "b693d9e0d8fb1aac8aab591bfb9d34b92cfb1b55f36b1bfc364ba9040575c004", func := "colonnade/colonnadelaw12.DeltOwn", spec := "deltOwn", inPlace := ["slices.overlaps[colonnade/api.Version]"], unfollowed := true, recurses := true, apart := false, narrowed := true }
def DeltOwnUptoSaid : Prop := deltOwnUptoRow.holds Try.pinned (OpenSpec.upto deltOwnSpec)

/-- 'colonnadelaw12.DeltRoom', WHERE WHAT IT READS IS OF BULK AT MOST 1048576: true; the input reads as it did. -/
def deltRoomUptoRow : OpenClaim := { program := "ytfmkalnnpddefaa", sum := "b693d9e0d8fb1aac8aab591bfb9d34b92cfb1b55f36b1bfc364ba9040575c004", func := "colonnade/colonnadelaw12.DeltRoom", spec := "deltRoom", inPlace := ["slices.overlaps[colonnade/api.Version]"], unfollowed := true, recurses := true, apart := false, narrowed := true }
def DeltRoomUptoSaid : Prop := deltRoomUptoRow.holds Try.pinned (OpenSpec.upto deltRoomSpec)

/-- 'colonnadelaw4.IcolFar', WHERE WHAT IT READS IS OF BULK AT MOST 1048576: true; the input reads as it did. -/
def icolFarUptoRow : OpenClaim := { program := "ytfmkalnnpddefaa", sum := "b693d9e0d8fb1aac8aab591bfb9d34b92cfb1b55f36b1bfc364ba9040575c004", func := "colonnade/colonnadelaw4.IcolFar", spec := "icolFar", unfollowed := true, recurses := true, apart := false, narrowed := true }
def IcolFarUptoSaid : Prop := icolFarUptoRow.holds Try.pinned (OpenSpec.upto icolFarSpec)

/-- 'colonnadelaw4.IcolBack', WHERE WHAT IT READS IS OF BULK AT MOST 1048576: true; the input reads as it did. -/
def icolBackUptoRow : OpenClaim := { program := "ytfmkalnnpddefaa", sum := "b693d9e0d8fb1aac8aab591bfb9d34b92cfb1b55f36b1bfc364ba9040575c004", func := "colonnade/colonnadelaw4.IcolBack", spec := "icolBack", unfollowed := true, recurses := true, apart := false, narrowed := true }
def IcolBackUptoSaid : Prop := icolBackUptoRow.holds Try.pinned (OpenSpec.upto icolBackSpec)

/-- 'colonnadelaw4.IcolBest', WHERE WHAT IT READS IS OF BULK AT MOST 1048576: true; the input reads as it did. -/
def icolBestUptoRow : OpenClaim := { program := "ytfmkalnnpddefaa", sum := "b693d9e0d8fb1aac8aab591bfb9d34b92cfb1b55f36b1bfc364ba9040575c004", func := "colonnade/colonnadelaw4.IcolBest", spec := "icolBest", unfollowed := true, recurses := true, apart := false, narrowed := true }
def IcolBestUptoSaid : Prop := icolBestUptoRow.holds Try.pinned (OpenSpec.upto icolBestSpec)

/-- 'colonnadelaw16.AggrParts', WHERE WHAT IT READS IS OF BULK AT MOST 1048576: true; the input reads as it did. -/
def aggrPartsUptoRow : OpenClaim := { program := "ytfmkalnnpddefaa", sum := "b693d9e0d8fb1aac8aab591bfb9d34b92cfb1b55f36b1bfc364ba9040575c004", func := "colonnade/colonnadelaw16.AggrParts", spec := "aggrParts", inPlace := ["internal/bytealg.Compare", "math/bits.Add64"], unfollowed := true, recurses := true, apart := false, narrowed := true }
def AggrPartsUptoSaid : Prop := aggrPartsUptoRow.holds Try.pinned (OpenSpec.upto aggrPartsSpec)

/-- 'colonnadelaw16.AggrOwn', WHERE WHAT IT READS IS OF BULK AT MOST 1048576: true; the input reads as it did. -/
def aggrOwnUptoRow : OpenClaim := { program := "ytfmkalnnpddefaa", sum := "b693d9e0d8fb1aac8aab591bfb9d34b92cfb1b55f36b1bfc364ba9040575c004", func := "colonnade/colonnadelaw16.AggrOwn", spec := "aggrOwn", inPlace := ["internal/bytealg.Compare", "math/bits.Add64"], unfollowed := true, recurses := true, apart := false, narrowed := true }
def AggrOwnUptoSaid : Prop := aggrOwnUptoRow.holds Try.pinned (OpenSpec.upto aggrOwnSpec)

end Rows
end Go.Proofs.Ytfmkalnnpddefaa
