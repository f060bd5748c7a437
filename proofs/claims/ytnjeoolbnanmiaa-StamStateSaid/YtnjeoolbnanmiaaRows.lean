/-
  No cell of these rows narrows 'for every input' (looked for: loops, veiled, ifaces, maps, wideKeys, modest, calm, conditions, laid).
  DERIVED. THE GIVEN ROWS OF THIS SEAT. 12 by the template 'for every input the law returns true; each argument reads behind the call as it read before'; 0 by the template 'total and deterministic' (their statements: YtnjeoolbnanmiaaTotals.lean).
  GIVEN WITH THE SEED: the statements are not yours to turn. If you find one false, say at which input.
  Laid BY PROGRAM, IN A SANDBOX (cutbox-rows.mjs): the forced cells as the released guide's own fill.sh prints them over the translation e73b5be9a65b1b23… (all of the seat's roots in one cut). By AI agents, Wed Nov 11 2026. No macro, syntax, notation, axiom, sorry.
-/
import Derived.Test.YtnjeoolbnanmiaaChecked
import GoSem.Claim
import GoSem.ClaimJoined
import GoSem.ClaimMapViews
import Derived.JoinedTies
import Derived.KernelRfl
namespace Go.Proofs.Ytnjeoolbnanmiaa
/- THE CELL 'sum', in the pinned program and in every row, IS THE sha256 OF THE DUMP (.gsa) THAT YtnjeoolbnanmiaaProg.lean LOADS. Nothing in Lean hashes anything: it is a label: what it is worth is what the hold of that sum in a sandbox is worth. -/
noncomputable def Try.pinned : Pinned := { name := "ytnjeoolbnanmiaa", sum := "e73b5be9a65b1b235232be6bde0a3a40de6f73c244d9eea6c9276654b34690a0", checked := Try.checked }
namespace Rows
def none {H : Type} : Left H := { results := [], args := [] }

/-- 'colonnadelaw11.StamState': WHATEVER THE INPUT: true; the input reads as it did. -/
def stamStateSpec : ChangeSpec := { name := "stamState", fn := fun _ => fun
  | [d1, d2] => { results := [.lit (.bool true)], args := [d1, d2] }
  | _ => none }
def stamStateRow : OpenClaim := { program := "ytnjeoolbnanmiaa", sum := "e73b5be9a65b1b235232be6bde0a3a40de6f73c244d9eea6c9276654b34690a0", func := "colonnade/colonnadelaw11.StamState", spec := "stamState", unfollowed := true, recurses := true, apart := false }
def StamStateSaid : Prop := stamStateRow.holds Try.pinned (OpenSpec.ofChange stamStateSpec)

/-- ITS FALSE NEIGHBOUR: 'it returns false'. Refute it at one input. -/
def stamStateWrong : ChangeSpec := { name := "stamState", fn := fun _ => fun
  | [d1, d2] => { results := [.lit (.bool false)], args := [d1, d2] }
  | _ => none }
def StamStateWrongFalsely : Prop := stamStateRow.holds Try.pinned (OpenSpec.ofChange stamStateWrong)

/-- 'colonnadelaw11.StamMine': WHATEVER THE INPUT: true; the input reads as it did. -/
def stamMineSpec : ChangeSpec := { name := "stamMine", fn := fun _ => fun
  | [d1, d2, d3] => { results := [.lit (.bool true)], args := [d1, d2, d3] }
  | _ => none }
def stamMineRow : OpenClaim := { program := "ytnjeoolbnanmiaa", sum := "e73b5be9a65b1b235232be6bde0a3a40de6f73c244d9eea6c9276654b34690a0", func := "colonnade/colonnadelaw11.StamMine", spec := "stamMine", unfollowed := true, recurses := true, apart := false }
def StamMineSaid : Prop := stamMineRow.holds Try.pinned (OpenSpec.ofChange stamMineSpec)

/-- ITS FALSE NEIGHBOUR: 'it returns false'. Refute it at one input. -/
def stamMineWrong : ChangeSpec := { name := "stamMine", fn := fun _ => fun
  | [d1, d2, d3] => { results := [.lit (.bool false)], args := [d1, d2, d3] }
  | _ => none }
def StamMineWrongFalsely : Prop := stamMineRow.holds Try.pinned (OpenSpec.ofChange stamMineWrong)

/-- 'colonnadelaw11.StamLater': WHATEVER THE INPUT: true; the input reads as it did. -/
def stamLaterSpec : ChangeSpec := { name := "stamLater", fn := fun _ => fun
  | [d1, d2, d3, d4] => { results := [.lit (.bool true)], args := [d1, d2, d3, d4] }
  | _ => none }
def stamLaterRow : OpenClaim := { program := "ytnjeoolbnanmiaa", sum := "e73b5be9a65b1b235232be6bde0a3a40de6f73c244d9eea6c9276654b34690a0", func := "colonnade/colonnadelaw11.StamLater", spec := "stamLater", unfollowed := true, recurses := true, apart := false }
def StamLaterSaid : Prop := stamLaterRow.holds Try.pinned (OpenSpec.ofChange stamLaterSpec)

/-- ITS FALSE NEIGHBOUR: 'it returns false'. Refute it at one input. -/
def stamLaterWrong : ChangeSpec := { name := "stamLater", fn := fun _ => fun
  | [d1, d2, d3, d4] => { results := [.lit (.bool false)], args := [d1, d2, d3, d4] }
  | _ => none }
def StamLaterWrongFalsely : Prop := stamLaterRow.holds Try.pinned (OpenSpec.ofChange stamLaterWrong)

/-- 'colonnadelaw11.StamEnds': WHATEVER THE INPUT: true; the input reads as it did. -/
def stamEndsSpec : ChangeSpec := { name := "stamEnds", fn := fun _ => fun
  | [d1, d2, d3] => { results := [.lit (.bool true)], args := [d1, d2, d3] }
  | _ => none }
def stamEndsRow : OpenClaim := { program := "ytnjeoolbnanmiaa", sum := "e73b5be9a65b1b235232be6bde0a3a40de6f73c244d9eea6c9276654b34690a0", func := "colonnade/colonnadelaw11.StamEnds", spec := "stamEnds", unfollowed := true, recurses := true, apart := false }
def StamEndsSaid : Prop := stamEndsRow.holds Try.pinned (OpenSpec.ofChange stamEndsSpec)

/-- ITS FALSE NEIGHBOUR: 'it returns false'. Refute it at one input. -/
def stamEndsWrong : ChangeSpec := { name := "stamEnds", fn := fun _ => fun
  | [d1, d2, d3] => { results := [.lit (.bool false)], args := [d1, d2, d3] }
  | _ => none }
def StamEndsWrongFalsely : Prop := stamEndsRow.holds Try.pinned (OpenSpec.ofChange stamEndsWrong)

/-- 'colonnadelaw6.SchmFits': WHATEVER THE INPUT: true; the input reads as it did. -/
def schmFitsSpec : ChangeSpec := { name := "schmFits", fn := fun _ => fun
  | [d1, d2, d3, d4] => { results := [.lit (.bool true)], args := [d1, d2, d3, d4] }
  | _ => none }
def schmFitsRow : OpenClaim := { program := "ytnjeoolbnanmiaa", sum := "e73b5be9a65b1b235232be6bde0a3a40de6f73c244d9eea6c9276654b34690a0", func := "colonnade/colonnadelaw6.SchmFits", spec := "schmFits", inPlace := ["internal/bytealg.Compare"], unfollowed := true, recurses := true, apart := false }
def SchmFitsSaid : Prop := schmFitsRow.holds Try.pinned (OpenSpec.ofChange schmFitsSpec)

/-- ITS FALSE NEIGHBOUR: 'it returns false'. Refute it at one input. -/
def schmFitsWrong : ChangeSpec := { name := "schmFits", fn := fun _ => fun
  | [d1, d2, d3, d4] => { results := [.lit (.bool false)], args := [d1, d2, d3, d4] }
  | _ => none }
def SchmFitsWrongFalsely : Prop := schmFitsRow.holds Try.pinned (OpenSpec.ofChange schmFitsWrong)

/-- 'colonnadelaw6.SchmOrder': WHATEVER THE INPUT: true; the input reads as it did. -/
def schmOrderSpec : ChangeSpec := { name := "schmOrder", fn := fun _ => fun
  | [d1, d2, d3, d4] => { results := [.lit (.bool true)], args := [d1, d2, d3, d4] }
  | _ => none }
def schmOrderRow : OpenClaim := { program := "ytnjeoolbnanmiaa", sum := "e73b5be9a65b1b235232be6bde0a3a40de6f73c244d9eea6c9276654b34690a0", func := "colonnade/colonnadelaw6.SchmOrder", spec := "schmOrder", inPlace := ["internal/bytealg.Compare"], unfollowed := true, recurses := true, apart := false }
def SchmOrderSaid : Prop := schmOrderRow.holds Try.pinned (OpenSpec.ofChange schmOrderSpec)

/-- ITS FALSE NEIGHBOUR: 'it returns false'. Refute it at one input. -/
def schmOrderWrong : ChangeSpec := { name := "schmOrder", fn := fun _ => fun
  | [d1, d2, d3, d4] => { results := [.lit (.bool false)], args := [d1, d2, d3, d4] }
  | _ => none }
def SchmOrderWrongFalsely : Prop := schmOrderRow.holds Try.pinned (OpenSpec.ofChange schmOrderWrong)

/-- 'colonnadelaw12.DeltOwn': WHATEVER THE INPUT: true; the input reads as it did. -/
def deltOwnSpec : ChangeSpec := { name := "deltOwn", fn := fun _ => fun
  | [d1, d2] => { results := [.lit (.bool true)], args := [d1, d2] }
  | _ => none }
def deltOwnRow : OpenClaim := { program := "ytnjeoolbnanmiaa", sum := "e73b5be9a65b1b235232be6bde0a3a40de6f73c244d9eea6c9276654b34690a0", func := "colonnade/colonnadelaw12.DeltOwn", spec := "deltOwn", inPlace := ["slices.overlaps[colonnade/api.Version]"], unfollowed := true, recurses := true, apart := false }
def DeltOwnSaid : Prop := deltOwnRow.holds Try.pinned (OpenSpec.ofChange deltOwnSpec)

/-- ITS FALSE NEIGHBOUR: 'it returns false'. Refute it at one input. -/
def deltOwnWrong : ChangeSpec := { name := "deltOwn", fn := fun _ => fun
  | [d1, d2] => { results := [.lit (.bool false)], args := [d1, d2] }
  | _ => none }
def DeltOwnWrongFalsely : Prop := deltOwnRow.holds Try.pinned (OpenSpec.ofChange deltOwnWrong)

/-- 'colonnadelaw12.DeltRoom': WHATEVER THE INPUT: true; the input reads as it did. -/
def deltRoomSpec : ChangeSpec := { name := "deltRoom", fn := fun _ => fun
  | [d] => { results := [.lit (.bool true)], args := [d] }
  | _ => none }
def deltRoomRow : OpenClaim := { program := "ytnjeoolbnanmiaa", sum := "e73b5be9a65b1b235232be6bde0a3a40de6f73c244d9eea6c9276654b34690a0", func := "colonnade/colonnadelaw12.DeltRoom", spec := "deltRoom", inPlace := ["slices.overlaps[colonnade/api.Version]"], unfollowed := true, recurses := true, apart := false }
def DeltRoomSaid : Prop := deltRoomRow.holds Try.pinned (OpenSpec.ofChange deltRoomSpec)

/-- ITS FALSE NEIGHBOUR: 'it returns false'. Refute it at one input. -/
def deltRoomWrong : ChangeSpec := { name := "deltRoom", fn := fun _ => fun
  | [d] => { results := [.lit (.bool false)], args := [d] }
  | _ => none }
def DeltRoomWrongFalsely : Prop := deltRoomRow.holds Try.pinned (OpenSpec.ofChange deltRoomWrong)

/-- 'colonnadelaw4.IcolFar': WHATEVER THE INPUT: true; the input reads as it did. -/
def icolFarSpec : ChangeSpec := { name := "icolFar", fn := fun _ => fun
  | [d] => { results := [.lit (.bool true)], args := [d] }
  | _ => none }
def icolFarRow : OpenClaim := { program := "ytnjeoolbnanmiaa", sum := "e73b5be9a65b1b235232be6bde0a3a40de6f73c244d9eea6c9276654b34690a0", func := "colonnade/colonnadelaw4.IcolFar", spec := "icolFar", unfollowed := true, recurses := true, apart := false }
def IcolFarSaid : Prop := icolFarRow.holds Try.pinned (OpenSpec.ofChange icolFarSpec)

/-- ITS FALSE NEIGHBOUR: 'it returns false'. Refute it at one input. -/
def icolFarWrong : ChangeSpec := { name := "icolFar", fn := fun _ => fun
  | [d] => { results := [.lit (.bool false)], args := [d] }
  | _ => none }
def IcolFarWrongFalsely : Prop := icolFarRow.holds Try.pinned (OpenSpec.ofChange icolFarWrong)

/-- 'colonnadelaw4.IcolBack': WHATEVER THE INPUT: true; the input reads as it did. -/
def icolBackSpec : ChangeSpec := { name := "icolBack", fn := fun _ => fun
  | [d1, d2] => { results := [.lit (.bool true)], args := [d1, d2] }
  | _ => none }
def icolBackRow : OpenClaim := { program := "ytnjeoolbnanmiaa", sum := "e73b5be9a65b1b235232be6bde0a3a40de6f73c244d9eea6c9276654b34690a0", func := "colonnade/colonnadelaw4.IcolBack", spec := "icolBack", unfollowed := true, recurses := true, apart := false }
def IcolBackSaid : Prop := icolBackRow.holds Try.pinned (OpenSpec.ofChange icolBackSpec)

/-- ITS FALSE NEIGHBOUR: 'it returns false'. Refute it at one input. -/
def icolBackWrong : ChangeSpec := { name := "icolBack", fn := fun _ => fun
  | [d1, d2] => { results := [.lit (.bool false)], args := [d1, d2] }
  | _ => none }
def IcolBackWrongFalsely : Prop := icolBackRow.holds Try.pinned (OpenSpec.ofChange icolBackWrong)

/-- 'colonnadelaw4.IcolBest': WHATEVER THE INPUT: true; the input reads as it did. -/
def icolBestSpec : ChangeSpec := { name := "icolBest", fn := fun _ => fun
  | [d1, d2, d3] => { results := [.lit (.bool true)], args := [d1, d2, d3] }
  | _ => none }
def icolBestRow : OpenClaim := { program := "ytnjeoolbnanmiaa", sum := "e73b5be9a65b1b235232be6bde0a3a40de6f73c244d9eea6c9276654b34690a0", func := "colonnade/colonnadelaw4.IcolBest", spec := "icolBest", unfollowed := true, recurses := true, apart := false }
def IcolBestSaid : Prop := icolBestRow.holds Try.pinned (OpenSpec.ofChange icolBestSpec)

/-- ITS FALSE NEIGHBOUR: 'it returns false'. Refute it at one input. -/
def icolBestWrong : ChangeSpec := { name := "icolBest", fn := fun _ => fun
  | [d1, d2, d3] => { results := [.lit (.bool false)], args := [d1, d2, d3] }
  | _ => none }
def IcolBestWrongFalsely : Prop := icolBestRow.holds Try.pinned (OpenSpec.ofChange icolBestWrong)

/-- 'colonnadelaw4.IcolTells': WHATEVER THE INPUT: true; the input reads as it did. -/
def icolTellsSpec : ChangeSpec := { name := "icolTells", fn := fun _ => fun
  | [d1, d2, d3, d4, d5, d6, d7] => { results := [.lit (.bool true)], args := [d1, d2, d3, d4, d5, d6, d7] }
  | _ => none }
def icolTellsRow : OpenClaim := { program := "ytnjeoolbnanmiaa", sum := "e73b5be9a65b1b235232be6bde0a3a40de6f73c244d9eea6c9276654b34690a0", func := "colonnade/colonnadelaw4.IcolTells", spec := "icolTells", unfollowed := true, recurses := true, apart := false }
def IcolTellsSaid : Prop := icolTellsRow.holds Try.pinned (OpenSpec.ofChange icolTellsSpec)

/-- ITS FALSE NEIGHBOUR: 'it returns false'. Refute it at one input. -/
def icolTellsWrong : ChangeSpec := { name := "icolTells", fn := fun _ => fun
  | [d1, d2, d3, d4, d5, d6, d7] => { results := [.lit (.bool false)], args := [d1, d2, d3, d4, d5, d6, d7] }
  | _ => none }
def IcolTellsWrongFalsely : Prop := icolTellsRow.holds Try.pinned (OpenSpec.ofChange icolTellsWrong)

/- THE SECOND FORM. 'bulk': how many values and letters a reading holds, each counted each time it is reached (what is shared counts as often as it is met; a slice's spare places count too). A statement '..UptoSaid' is the law's where the arguments, and the package variables that the reading takes, are together of bulk at most 1048576: NARROWER than '..Said'. Prove '..Said' where nothing that the law and all that it calls make is longer than what came in: it says more and counts as full. Else prove '..UptoSaid'. A law counts once. -/
mutual
def uptoBulk {H : Type} : DataW H → Nat
  | .lit (.string bytes) => bytes.length + 1
  | .lit _ => 1
  | .nil => 1
  | .ptr d => uptoBulk d + 1
  | .slice elems spare => uptoBulkAll elems + uptoBulkAll spare + 1
  | .agg parts => uptoBulkAll parts + 1
  | .iface _ d => uptoBulk d + 1
  | .map entries => uptoBulkEntries entries + 1
  | .held _ => 1
def uptoBulkAll {H : Type} : List (DataW H) → Nat
  | [] => 0
  | d :: r => uptoBulk d + uptoBulkAll r
def uptoBulkEntries {H : Type} : List (Lit × DataW H) → Nat
  | [] => 0
  | x :: r => uptoBulkEntry x + uptoBulkEntries r
def uptoBulkEntry {H : Type} : Lit × DataW H → Nat
  | (.string bytes, d) => bytes.length + uptoBulk d + 1
  | (_, d) => uptoBulk d + 1
 end
def uptoSmall : (H : Type) → List (DataW H) → Bool := fun _ ds => decide (uptoBulkAll ds ≤ 1048576)
def OpenSpec.upto (s : _root_.Go.ChangeSpec) : _root_.Go.OpenSpec := { _root_.Go.OpenSpec.ofChange s with cond := some uptoSmall }

/-- 'colonnadelaw11.StamState', WHERE WHAT IT READS IS OF BULK AT MOST 1048576: true; the input reads as it did. -/
def stamStateUptoRow : OpenClaim := { program := "ytnjeoolbnanmiaa", sum := "e73b5be9a65b1b235232be6bde0a3a40de6f73c244d9eea6c9276654b34690a0", func := "colonnade/colonnadelaw11.StamState", spec := "stamState", unfollowed := true, recurses := true, apart := false, narrowed := true }
def StamStateUptoSaid : Prop := stamStateUptoRow.holds Try.pinned (OpenSpec.upto stamStateSpec)

/-- 'colonnadelaw11.StamMine', WHERE WHAT IT READS IS OF BULK AT MOST 1048576: true; the input reads as it did. -/
def stamMineUptoRow : OpenClaim := { program := "ytnjeoolbnanmiaa", sum := "e73b5be9a65b1b235232be6bde0a3a40de6f73c244d9eea6c9276654b34690a0", func := "colonnade/colonnadelaw11.StamMine", spec := "stamMine", unfollowed := true, recurses := true, apart := false, narrowed := true }
def StamMineUptoSaid : Prop := stamMineUptoRow.holds Try.pinned (OpenSpec.upto stamMineSpec)

/-- 'colonnadelaw11.StamLater', WHERE WHAT IT READS IS OF BULK AT MOST 1048576: true; the input reads as it did. -/
def stamLaterUptoRow : OpenClaim := { program := "ytnjeoolbnanmiaa", sum := "e73b5be9a65b1b235232be6bde0a3a40de6f73c244d9eea6c9276654b34690a0", func := "colonnade/colonnadelaw11.StamLater", spec := "stamLater", unfollowed := true, recurses := true, apart := false, narrowed := true }
def StamLaterUptoSaid : Prop := stamLaterUptoRow.holds Try.pinned (OpenSpec.upto stamLaterSpec)

/-- 'colonnadelaw11.StamEnds', WHERE WHAT IT READS IS OF BULK AT MOST 1048576: true; the input reads as it did. -/
def stamEndsUptoRow : OpenClaim := { program := "ytnjeoolbnanmiaa", sum := "e73b5be9a65b1b235232be6bde0a3a40de6f73c244d9eea6c9276654b34690a0", func := "colonnade/colonnadelaw11.StamEnds", spec := "stamEnds", unfollowed := true, recurses := true, apart := false, narrowed := true }
def StamEndsUptoSaid : Prop := stamEndsUptoRow.holds Try.pinned (OpenSpec.upto stamEndsSpec)

/-- 'colonnadelaw6.SchmFits', WHERE WHAT IT READS IS OF BULK AT MOST 1048576: true; the input reads as it did. -/
def schmFitsUptoRow : OpenClaim := { program := "ytnjeoolbnanmiaa", sum := "e73b5be9a65b1b235232be6bde0a3a40de6f73c244d9eea6c9276654b34690a0", func := "colonnade/colonnadelaw6.SchmFits", spec := "schmFits", inPlace := ["internal/bytealg.Compare"], unfollowed := true, recurses := true, apart := false, narrowed := true }
def SchmFitsUptoSaid : Prop := schmFitsUptoRow.holds Try.pinned (OpenSpec.upto schmFitsSpec)

/-- 'colonnadelaw6.SchmOrder', WHERE WHAT IT READS IS OF BULK AT MOST 1048576: true; the input reads as it did. -/
def schmOrderUptoRow : OpenClaim := { program := "ytnjeoolbnanmiaa", sum := "e73b5be9a65b1b235232be6bde0a3a40de6f73c244d9eea6c9276654b34690a0", func := "colonnade/colonnadelaw6.SchmOrder", spec := "schmOrder", inPlace := ["internal/bytealg.Compare"], unfollowed := true, recurses := true, apart := false, narrowed := true }
def SchmOrderUptoSaid : Prop := schmOrderUptoRow.holds Try.pinned (OpenSpec.upto schmOrderSpec)

/-- 'colonnadelaw12.DeltOwn', WHERE WHAT IT READS IS OF BULK AT MOST 1048576: true; the input reads as it did. -/
def deltOwnUptoRow : OpenClaim := { program := "ytnjeoolbnanmiaa", sum := "e73b5be9a65b1b235232be6bde0a3a40de6f73c244d9eea6c9276654b34690a0", func := "colonnade/colonnadelaw12.DeltOwn", spec := "deltOwn", inPlace := ["slices.overlaps[colonnade/api.Version]"], unfollowed := true, recurses := true, apart := false, narrowed := true }
def DeltOwnUptoSaid : Prop := deltOwnUptoRow.holds Try.pinned (OpenSpec.upto deltOwnSpec)

/-- 'colonnadelaw12.DeltRoom', WHERE WHAT IT READS IS OF BULK AT MOST 1048576: true; the input reads as it did. -/
def deltRoomUptoRow : OpenClaim := { program := "ytnjeoolbnanmiaa", sum := "e73b5be9a65b1b235232be6bde0a3a40de6f73c244d9eea6c9276654b34690a0", func := "colonnade/colonnadelaw12.DeltRoom", spec := "deltRoom", inPlace := ["slices.overlaps[colonnade/api.Version]"], unfollowed := true, recurses := true, apart := false, narrowed := true }
def DeltRoomUptoSaid : Prop := deltRoomUptoRow.holds Try.pinned (OpenSpec.upto deltRoomSpec)

/-- 'colonnadelaw4.IcolFar', WHERE WHAT IT READS IS OF BULK AT MOST 1048576: true; the input reads as it did. -/
def icolFarUptoRow : OpenClaim := { program := "ytnjeoolbnanmiaa", sum := "e73b5be9a65b1b235232be6bde0a3a40de6f73c244d9eea6c9276654b34690a0", func := "colonnade/colonnadelaw4.IcolFar", spec := "icolFar", unfollowed := true, recurses := true, apart := false, narrowed := true }
def IcolFarUptoSaid : Prop := icolFarUptoRow.holds Try.pinned (OpenSpec.upto icolFarSpec)

/-- 'colonnadelaw4.IcolBack', WHERE WHAT IT READS IS OF BULK AT MOST 1048576: true; the input reads as it did. -/
def icolBackUptoRow : OpenClaim := { program := "ytnjeoolbnanmiaa", sum := "e73b5be9a65b1b235232be6bde0a3a40de6f73c244d9eea6c9276654b34690a0", func := "colonnade/colonnadelaw4.IcolBack", spec := "icolBack", unfollowed := true, recurses := true, apart := false, narrowed := true }
def IcolBackUptoSaid : Prop := icolBackUptoRow.holds Try.pinned (OpenSpec.upto icolBackSpec)

/-- 'colonnadelaw4.IcolBest', WHERE WHAT IT READS IS OF BULK AT MOST 1048576: true; the input reads as it did. -/
def icolBestUptoRow : OpenClaim := { program := "ytnjeoolbnanmiaa", sum := "e73b5be9a65b1b235232be6bde0a3a40de6f73c244d9eea6c9276654b34690a0", func := "colonnade/colonnadelaw4.IcolBest", spec := "icolBest", unfollowed := true, recurses := true, apart := false, narrowed := true }
def IcolBestUptoSaid : Prop := icolBestUptoRow.holds Try.pinned (OpenSpec.upto icolBestSpec)

/-- 'colonnadelaw4.IcolTells', WHERE WHAT IT READS IS OF BULK AT MOST 1048576: true; the input reads as it did. -/
def icolTellsUptoRow : OpenClaim := { program := "ytnjeoolbnanmiaa", sum := "e73b5be9a65b1b235232be6bde0a3a40de6f73c244d9eea6c9276654b34690a0", func := "colonnade/colonnadelaw4.IcolTells", spec := "icolTells", unfollowed := true, recurses := true, apart := false, narrowed := true }
def IcolTellsUptoSaid : Prop := icolTellsUptoRow.holds Try.pinned (OpenSpec.upto icolTellsSpec)

end Rows
end Go.Proofs.Ytnjeoolbnanmiaa
