/-
  No cell of these rows narrows 'for every input' (looked for: loops, veiled, ifaces, maps, wideKeys, modest, calm, conditions, laid).
  DERIVED. THE GIVEN ROWS OF THIS SEAT. 12 by the template 'for every input the law returns true; each argument reads behind the call as it read before'; 0 by the template 'total and deterministic' (their statements: YteloepccjoikdaaTotals.lean).
  GIVEN WITH THE SEED: the statements are not yours to turn. If you find one false, say at which input.
  Laid BY PROGRAM, IN A SANDBOX (cutbox-rows.mjs): the forced cells as the released guide's own fill.sh prints them over the translation 789c6faae0f649e5… (all of the seat's roots in one cut). By AI agents, Wed Nov 11 2026. No macro, syntax, notation, axiom, sorry.
-/
import Derived.Test.YteloepccjoikdaaChecked
import GoSem.Claim
import GoSem.ClaimJoined
import GoSem.ClaimMapViews
import Derived.JoinedTies
import Derived.KernelRfl
namespace Go.Proofs.Yteloepccjoikdaa
/- THE CELL 'sum', in the pinned program and in every row, IS THE sha256 OF THE DUMP (.gsa) THAT YteloepccjoikdaaProg.lean LOADS. Nothing in Lean hashes anything: it is a label: what it is worth is what the hold of that sum in a sandbox is worth. -/
noncomputable def Try.pinned : Pinned := { name := "yteloepccjoikdaa", sum := "789c6faae0f649e5371e5711e1880cd27da1d58a780fd8085132300eedfe718d", checked := Try.checked }
namespace Rows
def none {H : Type} : Left H := { results := [], args := [] }

/-- 'colonnadelaw12.DeltOwn': WHATEVER THE INPUT: true; the input reads as it did. -/
def deltOwnSpec : ChangeSpec := { name := "deltOwn", fn := fun _ => fun
  | [d1, d2] => { results := [.lit (.bool true)], args := [d1, d2] }
  | _ => none }
def deltOwnRow : OpenClaim := { program := "yteloepccjoikdaa", sum := "789c6faae0f649e5371e5711e1880cd27da1d58a780fd8085132300eedfe718d", func := "colonnade/colonnadelaw12.DeltOwn", spec := "deltOwn", inPlace := ["slices.overlaps[colonnade/api.Version]"], unfollowed := true, recurses := true, apart := false }
def DeltOwnSaid : Prop := deltOwnRow.holds Try.pinned (OpenSpec.ofChange deltOwnSpec)

/-- ITS FALSE NEIGHBOUR: 'it returns false'. Refute it at one input. -/
def deltOwnWrong : ChangeSpec := { name := "deltOwn", fn := fun _ => fun
  | [d1, d2] => { results := [.lit (.bool false)], args := [d1, d2] }
  | _ => none }
def DeltOwnWrongFalsely : Prop := deltOwnRow.holds Try.pinned (OpenSpec.ofChange deltOwnWrong)

/-- 'colonnadelaw12.DeltRoom': WHATEVER THE INPUT: true; the input reads as it did. -/
def deltRoomSpec : ChangeSpec := { name := "deltRoom", fn := fun _ => fun
  | [d] => { results := [.lit (.bool true)], args := [d] }
  | _ => none }
def deltRoomRow : OpenClaim := { program := "yteloepccjoikdaa", sum := "789c6faae0f649e5371e5711e1880cd27da1d58a780fd8085132300eedfe718d", func := "colonnade/colonnadelaw12.DeltRoom", spec := "deltRoom", inPlace := ["slices.overlaps[colonnade/api.Version]"], unfollowed := true, recurses := true, apart := false }
def DeltRoomSaid : Prop := deltRoomRow.holds Try.pinned (OpenSpec.ofChange deltRoomSpec)

/-- ITS FALSE NEIGHBOUR: 'it returns false'. Refute it at one input. -/
def deltRoomWrong : ChangeSpec := { name := "deltRoom", fn := fun _ => fun
  | [d] => { results := [.lit (.bool false)], args := [d] }
  | _ => none }
def DeltRoomWrongFalsely : Prop := deltRoomRow.holds Try.pinned (OpenSpec.ofChange deltRoomWrong)

/-- 'colonnadelaw12.DeltPlays': WHATEVER THE INPUT: true; the input reads as it did. -/
def deltPlaysSpec : ChangeSpec := { name := "deltPlays", fn := fun _ => fun
  | [d1, d2] => { results := [.lit (.bool true)], args := [d1, d2] }
  | _ => none }
def deltPlaysRow : OpenClaim := { program := "yteloepccjoikdaa", sum := "789c6faae0f649e5371e5711e1880cd27da1d58a780fd8085132300eedfe718d", func := "colonnade/colonnadelaw12.DeltPlays", spec := "deltPlays", inPlace := ["slices.overlaps[colonnade/api.Version]"], unfollowed := true, recurses := true, apart := false }
def DeltPlaysSaid : Prop := deltPlaysRow.holds Try.pinned (OpenSpec.ofChange deltPlaysSpec)

/-- ITS FALSE NEIGHBOUR: 'it returns false'. Refute it at one input. -/
def deltPlaysWrong : ChangeSpec := { name := "deltPlays", fn := fun _ => fun
  | [d1, d2] => { results := [.lit (.bool false)], args := [d1, d2] }
  | _ => none }
def DeltPlaysWrongFalsely : Prop := deltPlaysRow.holds Try.pinned (OpenSpec.ofChange deltPlaysWrong)

/-- 'colonnadelaw4.IcolFar': WHATEVER THE INPUT: true; the input reads as it did. -/
def icolFarSpec : ChangeSpec := { name := "icolFar", fn := fun _ => fun
  | [d] => { results := [.lit (.bool true)], args := [d] }
  | _ => none }
def icolFarRow : OpenClaim := { program := "yteloepccjoikdaa", sum := "789c6faae0f649e5371e5711e1880cd27da1d58a780fd8085132300eedfe718d", func := "colonnade/colonnadelaw4.IcolFar", spec := "icolFar", unfollowed := true, recurses := true, apart := false }
def IcolFarSaid : Prop := icolFarRow.holds Try.pinned (OpenSpec.ofChange icolFarSpec)

/-- ITS FALSE NEIGHBOUR: 'it returns false'. Refute it at one input. -/
def icolFarWrong : ChangeSpec := { name := "icolFar", fn := fun _ => fun
  | [d] => { results := [.lit (.bool false)], args := [d] }
  | _ => none }
def IcolFarWrongFalsely : Prop := icolFarRow.holds Try.pinned (OpenSpec.ofChange icolFarWrong)

/-- 'colonnadelaw4.IcolBack': WHATEVER THE INPUT: true; the input reads as it did. -/
def icolBackSpec : ChangeSpec := { name := "icolBack", fn := fun _ => fun
  | [d1, d2] => { results := [.lit (.bool true)], args := [d1, d2] }
  | _ => none }
def icolBackRow : OpenClaim := { program := "yteloepccjoikdaa", sum := "789c6faae0f649e5371e5711e1880cd27da1d58a780fd8085132300eedfe718d", func := "colonnade/colonnadelaw4.IcolBack", spec := "icolBack", unfollowed := true, recurses := true, apart := false }
def IcolBackSaid : Prop := icolBackRow.holds Try.pinned (OpenSpec.ofChange icolBackSpec)

/-- ITS FALSE NEIGHBOUR: 'it returns false'. Refute it at one input. -/
def icolBackWrong : ChangeSpec := { name := "icolBack", fn := fun _ => fun
  | [d1, d2] => { results := [.lit (.bool false)], args := [d1, d2] }
  | _ => none }
def IcolBackWrongFalsely : Prop := icolBackRow.holds Try.pinned (OpenSpec.ofChange icolBackWrong)

/-- 'colonnadelaw4.IcolBest': WHATEVER THE INPUT: true; the input reads as it did. -/
def icolBestSpec : ChangeSpec := { name := "icolBest", fn := fun _ => fun
  | [d1, d2, d3] => { results := [.lit (.bool true)], args := [d1, d2, d3] }
  | _ => none }
def icolBestRow : OpenClaim := { program := "yteloepccjoikdaa", sum := "789c6faae0f649e5371e5711e1880cd27da1d58a780fd8085132300eedfe718d", func := "colonnade/colonnadelaw4.IcolBest", spec := "icolBest", unfollowed := true, recurses := true, apart := false }
def IcolBestSaid : Prop := icolBestRow.holds Try.pinned (OpenSpec.ofChange icolBestSpec)

/-- ITS FALSE NEIGHBOUR: 'it returns false'. Refute it at one input. -/
def icolBestWrong : ChangeSpec := { name := "icolBest", fn := fun _ => fun
  | [d1, d2, d3] => { results := [.lit (.bool false)], args := [d1, d2, d3] }
  | _ => none }
def IcolBestWrongFalsely : Prop := icolBestRow.holds Try.pinned (OpenSpec.ofChange icolBestWrong)

/-- 'colonnadelaw4.IcolTells': WHATEVER THE INPUT: true; the input reads as it did. -/
def icolTellsSpec : ChangeSpec := { name := "icolTells", fn := fun _ => fun
  | [d1, d2, d3, d4, d5, d6, d7] => { results := [.lit (.bool true)], args := [d1, d2, d3, d4, d5, d6, d7] }
  | _ => none }
def icolTellsRow : OpenClaim := { program := "yteloepccjoikdaa", sum := "789c6faae0f649e5371e5711e1880cd27da1d58a780fd8085132300eedfe718d", func := "colonnade/colonnadelaw4.IcolTells", spec := "icolTells", unfollowed := true, recurses := true, apart := false }
def IcolTellsSaid : Prop := icolTellsRow.holds Try.pinned (OpenSpec.ofChange icolTellsSpec)

/-- ITS FALSE NEIGHBOUR: 'it returns false'. Refute it at one input. -/
def icolTellsWrong : ChangeSpec := { name := "icolTells", fn := fun _ => fun
  | [d1, d2, d3, d4, d5, d6, d7] => { results := [.lit (.bool false)], args := [d1, d2, d3, d4, d5, d6, d7] }
  | _ => none }
def IcolTellsWrongFalsely : Prop := icolTellsRow.holds Try.pinned (OpenSpec.ofChange icolTellsWrong)

/-- 'colonnadelaw5.BcolOwn': WHATEVER THE INPUT: true; the input reads as it did. -/
def bcolOwnSpec : ChangeSpec := { name := "bcolOwn", fn := fun _ => fun
  | [d1, d2, d3] => { results := [.lit (.bool true)], args := [d1, d2, d3] }
  | _ => none }
def bcolOwnRow : OpenClaim := { program := "yteloepccjoikdaa", sum := "789c6faae0f649e5371e5711e1880cd27da1d58a780fd8085132300eedfe718d", func := "colonnade/colonnadelaw5.BcolOwn", spec := "bcolOwn", inPlace := ["internal/bytealg.Compare"], unfollowed := true, recurses := true, apart := false }
def BcolOwnSaid : Prop := bcolOwnRow.holds Try.pinned (OpenSpec.ofChange bcolOwnSpec)

/-- ITS FALSE NEIGHBOUR: 'it returns false'. Refute it at one input. -/
def bcolOwnWrong : ChangeSpec := { name := "bcolOwn", fn := fun _ => fun
  | [d1, d2, d3] => { results := [.lit (.bool false)], args := [d1, d2, d3] }
  | _ => none }
def BcolOwnWrongFalsely : Prop := bcolOwnRow.holds Try.pinned (OpenSpec.ofChange bcolOwnWrong)

/-- 'colonnadelaw5.BcolBest': WHATEVER THE INPUT: true; the input reads as it did. -/
def bcolBestSpec : ChangeSpec := { name := "bcolBest", fn := fun _ => fun
  | [d1, d2] => { results := [.lit (.bool true)], args := [d1, d2] }
  | _ => none }
def bcolBestRow : OpenClaim := { program := "yteloepccjoikdaa", sum := "789c6faae0f649e5371e5711e1880cd27da1d58a780fd8085132300eedfe718d", func := "colonnade/colonnadelaw5.BcolBest", spec := "bcolBest", inPlace := ["internal/bytealg.Compare"], unfollowed := true, recurses := true, apart := false }
def BcolBestSaid : Prop := bcolBestRow.holds Try.pinned (OpenSpec.ofChange bcolBestSpec)

/-- ITS FALSE NEIGHBOUR: 'it returns false'. Refute it at one input. -/
def bcolBestWrong : ChangeSpec := { name := "bcolBest", fn := fun _ => fun
  | [d1, d2] => { results := [.lit (.bool false)], args := [d1, d2] }
  | _ => none }
def BcolBestWrongFalsely : Prop := bcolBestRow.holds Try.pinned (OpenSpec.ofChange bcolBestWrong)

/-- 'colonnadelaw5.BcolBack': WHATEVER THE INPUT: true; the input reads as it did. -/
def bcolBackSpec : ChangeSpec := { name := "bcolBack", fn := fun _ => fun
  | [d1, d2, d3] => { results := [.lit (.bool true)], args := [d1, d2, d3] }
  | _ => none }
def bcolBackRow : OpenClaim := { program := "yteloepccjoikdaa", sum := "789c6faae0f649e5371e5711e1880cd27da1d58a780fd8085132300eedfe718d", func := "colonnade/colonnadelaw5.BcolBack", spec := "bcolBack", inPlace := ["internal/bytealg.Compare"], unfollowed := true, recurses := true, apart := false }
def BcolBackSaid : Prop := bcolBackRow.holds Try.pinned (OpenSpec.ofChange bcolBackSpec)

/-- ITS FALSE NEIGHBOUR: 'it returns false'. Refute it at one input. -/
def bcolBackWrong : ChangeSpec := { name := "bcolBack", fn := fun _ => fun
  | [d1, d2, d3] => { results := [.lit (.bool false)], args := [d1, d2, d3] }
  | _ => none }
def BcolBackWrongFalsely : Prop := bcolBackRow.holds Try.pinned (OpenSpec.ofChange bcolBackWrong)

/-- 'colonnadelaw16.AggrParts': WHATEVER THE INPUT: true; the input reads as it did. -/
def aggrPartsSpec : ChangeSpec := { name := "aggrParts", fn := fun _ => fun
  | [d1, d2, d3] => { results := [.lit (.bool true)], args := [d1, d2, d3] }
  | _ => none }
def aggrPartsRow : OpenClaim := { program := "yteloepccjoikdaa", sum := "789c6faae0f649e5371e5711e1880cd27da1d58a780fd8085132300eedfe718d", func := "colonnade/colonnadelaw16.AggrParts", spec := "aggrParts", inPlace := ["internal/bytealg.Compare", "math/bits.Add64"], unfollowed := true, recurses := true, apart := false }
def AggrPartsSaid : Prop := aggrPartsRow.holds Try.pinned (OpenSpec.ofChange aggrPartsSpec)

/-- ITS FALSE NEIGHBOUR: 'it returns false'. Refute it at one input. -/
def aggrPartsWrong : ChangeSpec := { name := "aggrParts", fn := fun _ => fun
  | [d1, d2, d3] => { results := [.lit (.bool false)], args := [d1, d2, d3] }
  | _ => none }
def AggrPartsWrongFalsely : Prop := aggrPartsRow.holds Try.pinned (OpenSpec.ofChange aggrPartsWrong)

/-- 'colonnadelaw16.AggrOwn': WHATEVER THE INPUT: true; the input reads as it did. -/
def aggrOwnSpec : ChangeSpec := { name := "aggrOwn", fn := fun _ => fun
  | [d1, d2] => { results := [.lit (.bool true)], args := [d1, d2] }
  | _ => none }
def aggrOwnRow : OpenClaim := { program := "yteloepccjoikdaa", sum := "789c6faae0f649e5371e5711e1880cd27da1d58a780fd8085132300eedfe718d", func := "colonnade/colonnadelaw16.AggrOwn", spec := "aggrOwn", inPlace := ["internal/bytealg.Compare", "math/bits.Add64"], unfollowed := true, recurses := true, apart := false }
def AggrOwnSaid : Prop := aggrOwnRow.holds Try.pinned (OpenSpec.ofChange aggrOwnSpec)

/-- ITS FALSE NEIGHBOUR: 'it returns false'. Refute it at one input. -/
def aggrOwnWrong : ChangeSpec := { name := "aggrOwn", fn := fun _ => fun
  | [d1, d2] => { results := [.lit (.bool false)], args := [d1, d2] }
  | _ => none }
def AggrOwnWrongFalsely : Prop := aggrOwnRow.holds Try.pinned (OpenSpec.ofChange aggrOwnWrong)

/- THE SECOND FORM. 'bulk': how many values and letters a reading holds, each counted each time it is reached (what is shared counts as often as it is met; a slice's spare places count too). A statement '..UptoSaid' is the law's where the arguments, and the package variables that the reading takes, are together of bulk at most 1048576: NARROWER than '..Said'. Prove '..Said' where nothing that the law and all that it calls make is longer than what came in: it says more and counts as full. Else prove '..UptoSaid'. A law counts once. -/
mutual
def uptoBulk {H : Type} : DataW H → Nat
  | .lit (.string bytes) => bytes.length + 1
  | .lit _ => 1
  | .nil => 1
  | .ptr d => uptoBulk d + 1
  | .slice elems spare => uptoBulkAll elems + uptoBulkAll spare + 1
  | .agg parts => uptoBulkAll parts + 1
  | .iface _ d => uptoBulk d + 1
  | .map entries => uptoBulkEntries entries + 1
  | .held _ => 1
def uptoBulkAll {H : Type} : List (DataW H) → Nat
  | [] => 0
  | d :: r => uptoBulk d + uptoBulkAll r
def uptoBulkEntries {H : Type} : List (Lit × DataW H) → Nat
  | [] => 0
  | x :: r => uptoBulkEntry x + uptoBulkEntries r
def uptoBulkEntry {H : Type} : Lit × DataW H → Nat
  | (.string bytes, d) => bytes.length + uptoBulk d + 1
  | (_, d) => uptoBulk d + 1
 end
def uptoSmall : (H : Type) → List (DataW H) → Bool := fun _ ds => decide (uptoBulkAll ds ≤ 1048576)
def OpenSpec.upto (s : _root_.Go.ChangeSpec) : _root_.Go.OpenSpec := { _root_.Go.OpenSpec.ofChange s with cond := some uptoSmall }

/-- 'colonnadelaw12.DeltOwn', WHERE WHAT IT READS IS OF BULK AT MOST 1048576: true; the input reads as it did. -/
def deltOwnUptoRow : OpenClaim := { program := "yteloepccjoikdaa", sum := "789c6faae0f649e5371e5711e1880cd27da1d58a780fd8085132300eedfe718d", func := "colonnade/colonnadelaw12.DeltOwn", spec := "deltOwn", inPlace := ["slices.overlaps[colonnade/api.Version]"], unfollowed := true, recurses := true, apart := false, narrowed := true }
def DeltOwnUptoSaid : Prop := deltOwnUptoRow.holds Try.pinned (OpenSpec.upto deltOwnSpec)

/-- 'colonnadelaw12.DeltRoom', WHERE WHAT IT READS IS OF BULK AT MOST 1048576: true; the input reads as it did. -/
def deltRoomUptoRow : OpenClaim := { program := "yteloepccjoikdaa", sum := "789c6faae0f649e5371e5711e1880cd27da1d58a780fd8085132300eedfe718d", func := "colonnade/colonnadelaw12.DeltRoom", spec := "deltRoom", inPlace := ["slices.overlaps[colonnade/api.Version]"], unfollowed := true, recurses := true, apart := false, narrowed := true }
def DeltRoomUptoSaid : Prop := deltRoomUptoRow.holds Try.pinned (OpenSpec.upto deltRoomSpec)

/-- 'colonnadelaw12.DeltPlays', WHERE WHAT IT READS IS OF BULK AT MOST 1048576: true; the input reads as it did. -/
def deltPlaysUptoRow : OpenClaim := { program := "yteloepccjoikdaa", sum := "789c6faae0f649e5371e5711e1880cd27da1d58a780fd8085132300eedfe718d", func := "colonnade/colonnadelaw12.DeltPlays", spec := "deltPlays", inPlace := ["slices.overlaps[colonnade/api.Version]"], unfollowed := true, recurses := true, apart := false, narrowed := true }
def DeltPlaysUptoSaid : Prop := deltPlaysUptoRow.holds Try.pinned (OpenSpec.upto deltPlaysSpec)

/-- 'colonnadelaw4.IcolFar', WHERE WHAT IT READS IS OF BULK AT MOST 1048576: true; the input reads as it did. -/
def icolFarUptoRow : OpenClaim := { program := "yteloepccjoikdaa", sum := "789c6faae0f649e5371e5711e1880cd27da1d58a780fd8085132300eedfe718d", func := "colonnade/colonnadelaw4.IcolFar", spec := "icolFar", unfollowed := true, recurses := true, apart := false, narrowed := true }
def IcolFarUptoSaid : Prop := icolFarUptoRow.holds Try.pinned (OpenSpec.upto icolFarSpec)

/-- 'colonnadelaw4.IcolBack', WHERE WHAT IT READS IS OF BULK AT MOST 1048576: true; the input reads as it did. -/
def icolBackUptoRow : OpenClaim := { program := "yteloepccjoikdaa", sum := "789c6faae0f649e5371e5711e1880cd27da1d58a780fd8085132300eedfe718d", func := "colonnade/colonnadelaw4.IcolBack", spec := "icolBack", unfollowed := true, recurses := true, apart := false, narrowed := true }
def IcolBackUptoSaid : Prop := icolBackUptoRow.holds Try.pinned (OpenSpec.upto icolBackSpec)

/-- 'colonnadelaw4.IcolBest', WHERE WHAT IT READS IS OF BULK AT MOST 1048576: true; the input reads as it did. -/
def icolBestUptoRow : OpenClaim := { program := "yteloepccjoikdaa", sum := "789c6faae0f649e5371e5711e1880cd27da1d58a780fd8085132300eedfe718d", func := "colonnade/colonnadelaw4.IcolBest", spec := "icolBest", unfollowed := true, recurses := true, apart := false, narrowed := true }
def IcolBestUptoSaid : Prop := icolBestUptoRow.holds Try.pinned (OpenSpec.upto icolBestSpec)

/-- 'colonnadelaw4.IcolTells', WHERE WHAT IT READS IS OF BULK AT MOST 1048576: true; the input reads as it did. -/
def icolTellsUptoRow : OpenClaim := { program := "yteloepccjoikdaa", sum := "789c6faae0f649e5371e5711e1880cd27da1d58a780fd8085132300eedfe718d", func := "colonnade/colonnadelaw4.IcolTells", spec := "icolTells", unfollowed := true, recurses := true, apart := false, narrowed := true }
def IcolTellsUptoSaid : Prop := icolTellsUptoRow.holds Try.pinned (OpenSpec.upto icolTellsSpec)

/-- 'colonnadelaw5.BcolOwn', WHERE WHAT IT READS IS OF BULK AT MOST 1048576: true; the input reads as it did. -/
def bcolOwnUptoRow : OpenClaim := { program := "yteloepccjoikdaa", sum := "789c6faae0f649e5371e5711e1880cd27da1d58a780fd8085132300eedfe718d", func := "colonnade/colonnadelaw5.BcolOwn", spec := "bcolOwn", inPlace := ["internal/bytealg.Compare"], unfollowed := true, recurses := true, apart := false, narrowed := true }
def BcolOwnUptoSaid : Prop := bcolOwnUptoRow.holds Try.pinned (OpenSpec.upto bcolOwnSpec)

/-- 'colonnadelaw5.BcolBest', WHERE WHAT IT READS IS OF BULK AT MOST 1048576: true; the input reads as it did. -/
def bcolBestUptoRow : OpenClaim := { program := "yteloepccjoikdaa", sum := "789c6faae0f649e5371e5711e1880cd27da1d58a780fd8085132300eedfe718d", func := "colonnade/colonnadelaw5.BcolBest", spec := "bcolBest", inPlace := ["internal/bytealg.Compare"], unfollowed := true, recurses := true, apart := false, narrowed := true }
def BcolBestUptoSaid : Prop := bcolBestUptoRow.holds Try.pinned (OpenSpec.upto bcolBestSpec)

/-- 'colonnadelaw5.BcolBack', WHERE WHAT IT READS IS OF BULK AT MOST 1048576: true; the input reads as it did. -/
def bcolBackUptoRow : OpenClaim := { program := "yteloepccjoikdaa", sum := "789c6faae0f649e5371e5711e1880cd27da1d58a780fd8085132300eedfe718d", func := "colonnade/colonnadelaw5.BcolBack", spec := "bcolBack", inPlace := ["internal/bytealg.Compare"], unfollowed := true, recurses := true, apart := false, narrowed := true }
def BcolBackUptoSaid : Prop := bcolBackUptoRow.holds Try.pinned (OpenSpec.upto bcolBackSpec)

/-- 'colonnadelaw16.AggrParts', WHERE WHAT IT READS IS OF BULK AT MOST 1048576: true; the input reads as it did. -/
def aggrPartsUptoRow : OpenClaim := { program := "yteloepccjoikdaa", sum := "789c6faae0f649e5371e5711e1880cd27da1d58a780fd8085132300eedfe718d", func := "colonnade/colonnadelaw16.AggrParts", spec := "aggrParts", inPlace := ["internal/bytealg.Compare", "math/bits.Add64"], unfollowed := true, recurses := true, apart := false, narrowed := true }
def AggrPartsUptoSaid : Prop := aggrPartsUptoRow.holds Try.pinned (OpenSpec.upto aggrPartsSpec)

/-- 'colonnadelaw16.AggrOwn', WHERE WHAT IT READS IS OF BULK AT MOST 1048576: true; the input reads as it did. -/
def aggrOwnUptoRow : OpenClaim := { program := "yteloepccjoikdaa", sum := "789c6faae0f649e5371e5711e1880cd27da1d58a780fd8085132300eedfe718d", func := "colonnade/colonnadelaw16.AggrOwn", spec := "aggrOwn", inPlace := ["internal/bytealg.Compare", "math/bits.Add64"], unfollowed := true, recurses := true, apart := false, narrowed := true }
def AggrOwnUptoSaid : Prop := aggrOwnUptoRow.holds Try.pinned (OpenSpec.upto aggrOwnSpec)

end Rows
end Go.Proofs.Yteloepccjoikdaa
