/-
  No cell of these rows narrows 'for every input' (looked for: loops, veiled, ifaces, maps, wideKeys, modest, calm, conditions, laid).
  DERIVED. THE GIVEN ROWS OF THIS SEAT. 12 by the template 'for every input the law returns true; each argument reads behind the call as it read before'; 0 by the template 'total and deterministic' (their statements: YtlkjdclhgmkndaaTotals.lean).
  GIVEN WITH THE SEED: the statements are not yours to turn. If you find one false, say at which input.
  Laid BY PROGRAM, IN A SANDBOX (cutbox-rows.mjs): the forced cells as the released guide's own fill.sh prints them over the translation 8f241f0447ccf4ef… (all of the seat's roots in one cut). By AI agents, Wed Nov 11 2026. No macro, syntax, notation, axiom, sorry.
-/
import Derived.Test.YtlkjdclhgmkndaaChecked
import GoSem.Claim
import GoSem.ClaimJoined
import GoSem.ClaimMapViews
import Derived.JoinedTies
import Derived.KernelRfl
namespace Go.Proofs.Ytlkjdclhgmkndaa
/- THE CELL 'sum', in the pinned program and in every row, IS THE sha256 OF THE DUMP (.gsa) THAT YtlkjdclhgmkndaaProg.lean LOADS. Nothing in Lean hashes anything: it is a label: what it is worth is what the hold of that sum in a sandbox is worth. -/
noncomputable def Try.pinned : Pinned := { name := "ytlkjdclhgmkndaa", sum := "8f241f0447ccf4ef253a0e8b806eb05875ad007aff8bbc345815c6b910e54836", checked := Try.checked }
namespace Rows
def none {H : Type} : Left H := { results := [], args := [] }

/-- 'colonnadelaw6.SchmFits': WHATEVER THE INPUT: true; the input reads as it did. -/
def schmFitsSpec : ChangeSpec := { name := "schmFits", fn := fun _ => fun
  | [d1, d2, d3, d4] => { results := [.lit (.bool true)], args := [d1, d2, d3, d4] }
  | _ => none }
def schmFitsRow : OpenClaim := { program := "ytlkjdclhgmkndaa", sum := "8f241f0447ccf4ef253a0e8b806eb05875ad007aff8bbc345815c6b910e54836", func := "colonnade/colonnadelaw6.SchmFits", spec := "schmFits", inPlace := ["internal/bytealg.Compare"], unfollowed := true, recurses := true, apart := false }
def SchmFitsSaid : Prop := schmFitsRow.holds Try.pinned (OpenSpec.ofChange schmFitsSpec)

/-- ITS FALSE NEIGHBOUR: 'it returns false'. Refute it at one input. -/
def schmFitsWrong : ChangeSpec := { name := "schmFits", fn := fun _ => fun
  | [d1, d2, d3, d4] => { results := [.lit (.bool false)], args := [d1, d2, d3, d4] }
  | _ => none }
def SchmFitsWrongFalsely : Prop := schmFitsRow.holds Try.pinned (OpenSpec.ofChange schmFitsWrong)

/-- 'colonnadelaw6.SchmOrder': WHATEVER THE INPUT: true; the input reads as it did. -/
def schmOrderSpec : ChangeSpec := { name := "schmOrder", fn := fun _ => fun
  | [d1, d2, d3, d4] => { results := [.lit (.bool true)], args := [d1, d2, d3, d4] }
  | _ => none }
def schmOrderRow : OpenClaim := { program := "ytlkjdclhgmkndaa", sum := "8f241f0447ccf4ef253a0e8b806eb05875ad007aff8bbc345815c6b910e54836", func := "colonnade/colonnadelaw6.SchmOrder", spec := "schmOrder", inPlace := ["internal/bytealg.Compare"], unfollowed := true, recurses := true, apart := false }
def SchmOrderSaid : Prop := schmOrderRow.holds Try.pinned (OpenSpec.ofChange schmOrderSpec)

/-- ITS FALSE NEIGHBOUR: 'it returns false'. Refute it at one input. -/
def schmOrderWrong : ChangeSpec := { name := "schmOrder", fn := fun _ => fun
  | [d1, d2, d3, d4] => { results := [.lit (.bool false)], args := [d1, d2, d3, d4] }
  | _ => none }
def SchmOrderWrongFalsely : Prop := schmOrderRow.holds Try.pinned (OpenSpec.ofChange schmOrderWrong)

/-- 'colonnadelaw7.PredMore': WHATEVER THE INPUT: true; the input reads as it did. -/
def predMoreSpec : ChangeSpec := { name := "predMore", fn := fun _ => fun
  | [d1, d2, d3, d4] => { results := [.lit (.bool true)], args := [d1, d2, d3, d4] }
  | _ => none }
def predMoreRow : OpenClaim := { program := "ytlkjdclhgmkndaa", sum := "8f241f0447ccf4ef253a0e8b806eb05875ad007aff8bbc345815c6b910e54836", func := "colonnade/colonnadelaw7.PredMore", spec := "predMore", inPlace := ["internal/bytealg.Compare"], unfollowed := true, recurses := true, apart := false }
def PredMoreSaid : Prop := predMoreRow.holds Try.pinned (OpenSpec.ofChange predMoreSpec)

/-- ITS FALSE NEIGHBOUR: 'it returns false'. Refute it at one input. -/
def predMoreWrong : ChangeSpec := { name := "predMore", fn := fun _ => fun
  | [d1, d2, d3, d4] => { results := [.lit (.bool false)], args := [d1, d2, d3, d4] }
  | _ => none }
def PredMoreWrongFalsely : Prop := predMoreRow.holds Try.pinned (OpenSpec.ofChange predMoreWrong)

/-- 'colonnadelaw7.PredLaws': WHATEVER THE INPUT: true; the input reads as it did. -/
def predLawsSpec : ChangeSpec := { name := "predLaws", fn := fun _ => fun
  | [d1, d2, d3, d4] => { results := [.lit (.bool true)], args := [d1, d2, d3, d4] }
  | _ => none }
def predLawsRow : OpenClaim := { program := "ytlkjdclhgmkndaa", sum := "8f241f0447ccf4ef253a0e8b806eb05875ad007aff8bbc345815c6b910e54836", func := "colonnade/colonnadelaw7.PredLaws", spec := "predLaws", inPlace := ["internal/bytealg.Compare"], unfollowed := true, recurses := true, apart := false }
def PredLawsSaid : Prop := predLawsRow.holds Try.pinned (OpenSpec.ofChange predLawsSpec)

/-- ITS FALSE NEIGHBOUR: 'it returns false'. Refute it at one input. -/
def predLawsWrong : ChangeSpec := { name := "predLaws", fn := fun _ => fun
  | [d1, d2, d3, d4] => { results := [.lit (.bool false)], args := [d1, d2, d3, d4] }
  | _ => none }
def PredLawsWrongFalsely : Prop := predLawsRow.holds Try.pinned (OpenSpec.ofChange predLawsWrong)

/-- 'colonnadelaw7.PredOwn': WHATEVER THE INPUT: true; the input reads as it did. -/
def predOwnSpec : ChangeSpec := { name := "predOwn", fn := fun _ => fun
  | [d1, d2, d3] => { results := [.lit (.bool true)], args := [d1, d2, d3] }
  | _ => none }
def predOwnRow : OpenClaim := { program := "ytlkjdclhgmkndaa", sum := "8f241f0447ccf4ef253a0e8b806eb05875ad007aff8bbc345815c6b910e54836", func := "colonnade/colonnadelaw7.PredOwn", spec := "predOwn", inPlace := ["internal/bytealg.Compare"], unfollowed := true, recurses := true, apart := false }
def PredOwnSaid : Prop := predOwnRow.holds Try.pinned (OpenSpec.ofChange predOwnSpec)

/-- ITS FALSE NEIGHBOUR: 'it returns false'. Refute it at one input. -/
def predOwnWrong : ChangeSpec := { name := "predOwn", fn := fun _ => fun
  | [d1, d2, d3] => { results := [.lit (.bool false)], args := [d1, d2, d3] }
  | _ => none }
def PredOwnWrongFalsely : Prop := predOwnRow.holds Try.pinned (OpenSpec.ofChange predOwnWrong)

/-- 'colonnadelaw7.PredDeep': WHATEVER THE INPUT: true; the input reads as it did. -/
def predDeepSpec : ChangeSpec := { name := "predDeep", fn := fun _ => fun
  | [d1, d2, d3] => { results := [.lit (.bool true)], args := [d1, d2, d3] }
  | _ => none }
def predDeepRow : OpenClaim := { program := "ytlkjdclhgmkndaa", sum := "8f241f0447ccf4ef253a0e8b806eb05875ad007aff8bbc345815c6b910e54836", func := "colonnade/colonnadelaw7.PredDeep", spec := "predDeep", inPlace := ["internal/bytealg.Compare"], unfollowed := true, recurses := true, apart := false }
def PredDeepSaid : Prop := predDeepRow.holds Try.pinned (OpenSpec.ofChange predDeepSpec)

/-- ITS FALSE NEIGHBOUR: 'it returns false'. Refute it at one input. -/
def predDeepWrong : ChangeSpec := { name := "predDeep", fn := fun _ => fun
  | [d1, d2, d3] => { results := [.lit (.bool false)], args := [d1, d2, d3] }
  | _ => none }
def PredDeepWrongFalsely : Prop := predDeepRow.holds Try.pinned (OpenSpec.ofChange predDeepWrong)

/-- 'colonnadelaw12.DeltOwn': WHATEVER THE INPUT: true; the input reads as it did. -/
def deltOwnSpec : ChangeSpec := { name := "deltOwn", fn := fun _ => fun
  | [d1, d2] => { results := [.lit (.bool true)], args := [d1, d2] }
  | _ => none }
def deltOwnRow : OpenClaim := { program := "ytlkjdclhgmkndaa", sum := "8f241f0447ccf4ef253a0e8b806eb05875ad007aff8bbc345815c6b910e54836", func := "colonnade/colonnadelaw12.DeltOwn", spec := "deltOwn", inPlace := ["slices.overlaps[colonnade/api.Version]"], unfollowed := true, recurses := true, apart := false }
def DeltOwnSaid : Prop := deltOwnRow.holds Try.pinned (OpenSpec.ofChange deltOwnSpec)

/-- ITS FALSE NEIGHBOUR: 'it returns false'. Refute it at one input. -/
def deltOwnWrong : ChangeSpec := { name := "deltOwn", fn := fun _ => fun
  | [d1, d2] => { results := [.lit (.bool false)], args := [d1, d2] }
  | _ => none }
def DeltOwnWrongFalsely : Prop := deltOwnRow.holds Try.pinned (OpenSpec.ofChange deltOwnWrong)

/-- 'colonnadelaw12.DeltRoom': WHATEVER THE INPUT: true; the input reads as it did. -/
def deltRoomSpec : ChangeSpec := { name := "deltRoom", fn := fun _ => fun
  | [d] => { results := [.lit (.bool true)], args := [d] }
  | _ => none }
def deltRoomRow : OpenClaim := { program := "ytlkjdclhgmkndaa", sum := "8f241f0447ccf4ef253a0e8b806eb05875ad007aff8bbc345815c6b910e54836", func := "colonnade/colonnadelaw12.DeltRoom", spec := "deltRoom", inPlace := ["slices.overlaps[colonnade/api.Version]"], unfollowed := true, recurses := true, apart := false }
def DeltRoomSaid : Prop := deltRoomRow.holds Try.pinned (OpenSpec.ofChange deltRoomSpec)

/-- ITS FALSE NEIGHBOUR: 'it returns false'. Refute it at one input. -/
def deltRoomWrong : ChangeSpec := { name := "deltRoom", fn := fun _ => fun
  | [d] => { results := [.lit (.bool false)], args := [d] }
  | _ => none }
def DeltRoomWrongFalsely : Prop := deltRoomRow.holds Try.pinned (OpenSpec.ofChange deltRoomWrong)

/-- 'colonnadelaw4.IcolFar': WHATEVER THE INPUT: true; the input reads as it did. -/
def icolFarSpec : ChangeSpec := { name := "icolFar", fn := fun _ => fun
  | [d] => { results := [.lit (.bool true)], args := [d] }
  | _ => none }
def icolFarRow : OpenClaim := { program := "ytlkjdclhgmkndaa", sum := "8f241f0447ccf4ef253a0e8b806eb05875ad007aff8bbc345815c6b910e54836", func := "colonnade/colonnadelaw4.IcolFar", spec := "icolFar", unfollowed := true, recurses := true, apart := false }
def IcolFarSaid : Prop := icolFarRow.holds Try.pinned (OpenSpec.ofChange icolFarSpec)

/-- ITS FALSE NEIGHBOUR: 'it returns false'. Refute it at one input. -/
def icolFarWrong : ChangeSpec := { name := "icolFar", fn := fun _ => fun
  | [d] => { results := [.lit (.bool false)], args := [d] }
  | _ => none }
def IcolFarWrongFalsely : Prop := icolFarRow.holds Try.pinned (OpenSpec.ofChange icolFarWrong)

/-- 'colonnadelaw4.IcolBack': WHATEVER THE INPUT: true; the input reads as it did. -/
def icolBackSpec : ChangeSpec := { name := "icolBack", fn := fun _ => fun
  | [d1, d2] => { results := [.lit (.bool true)], args := [d1, d2] }
  | _ => none }
def icolBackRow : OpenClaim := { program := "ytlkjdclhgmkndaa", sum := "8f241f0447ccf4ef253a0e8b806eb05875ad007aff8bbc345815c6b910e54836", func := "colonnade/colonnadelaw4.IcolBack", spec := "icolBack", unfollowed := true, recurses := true, apart := false }
def IcolBackSaid : Prop := icolBackRow.holds Try.pinned (OpenSpec.ofChange icolBackSpec)

/-- ITS FALSE NEIGHBOUR: 'it returns false'. Refute it at one input. -/
def icolBackWrong : ChangeSpec := { name := "icolBack", fn := fun _ => fun
  | [d1, d2] => { results := [.lit (.bool false)], args := [d1, d2] }
  | _ => none }
def IcolBackWrongFalsely : Prop := icolBackRow.holds Try.pinned (OpenSpec.ofChange icolBackWrong)

/-- 'colonnadelaw4.IcolBest': WHATEVER THE INPUT: true; the input reads as it did. -/
def icolBestSpec : ChangeSpec := { name := "icolBest", fn := fun _ => fun
  | [d1, d2, d3] => { results := [.lit (.bool true)], args := [d1, d2, d3] }
  | _ => none }
def icolBestRow : OpenClaim := { program := "ytlkjdclhgmkndaa", sum := "8f241f0447ccf4ef253a0e8b806eb05875ad007aff8bbc345815c6b910e54836", func := "colonnade/colonnadelaw4.IcolBest", spec := "icolBest", unfollowed := true, recurses := true, apart := false }
def IcolBestSaid : Prop := icolBestRow.holds Try.pinned (OpenSpec.ofChange icolBestSpec)

/-- ITS FALSE NEIGHBOUR: 'it returns false'. Refute it at one input. -/
def icolBestWrong : ChangeSpec := { name := "icolBest", fn := fun _ => fun
  | [d1, d2, d3] => { results := [.lit (.bool false)], args := [d1, d2, d3] }
  | _ => none }
def IcolBestWrongFalsely : Prop := icolBestRow.holds Try.pinned (OpenSpec.ofChange icolBestWrong)

/-- 'colonnadelaw4.IcolTells': WHATEVER THE INPUT: true; the input reads as it did. -/
def icolTellsSpec : ChangeSpec := { name := "icolTells", fn := fun _ => fun
  | [d1, d2, d3, d4, d5, d6, d7] => { results := [.lit (.bool true)], args := [d1, d2, d3, d4, d5, d6, d7] }
  | _ => none }
def icolTellsRow : OpenClaim := { program := "ytlkjdclhgmkndaa", sum := "8f241f0447ccf4ef253a0e8b806eb05875ad007aff8bbc345815c6b910e54836", func := "colonnade/colonnadelaw4.IcolTells", spec := "icolTells", unfollowed := true, recurses := true, apart := false }
def IcolTellsSaid : Prop := icolTellsRow.holds Try.pinned (OpenSpec.ofChange icolTellsSpec)

/-- ITS FALSE NEIGHBOUR: 'it returns false'. Refute it at one input. -/
def icolTellsWrong : ChangeSpec := { name := "icolTells", fn := fun _ => fun
  | [d1, d2, d3, d4, d5, d6, d7] => { results := [.lit (.bool false)], args := [d1, d2, d3, d4, d5, d6, d7] }
  | _ => none }
def IcolTellsWrongFalsely : Prop := icolTellsRow.holds Try.pinned (OpenSpec.ofChange icolTellsWrong)

/- THE SECOND FORM. 'bulk': how many values and letters a reading holds, each counted each time it is reached (what is shared counts as often as it is met; a slice's spare places count too). A statement '..UptoSaid' is the law's where the arguments, and the package variables that the reading takes, are together of bulk at most 1048576: NARROWER than '..Said'. Prove '..Said' where nothing that the law and all that it calls make is longer than what came in: it says more and counts as full. Else prove '..UptoSaid'. A law counts once. -/
mutual
def uptoBulk {H : Type} : DataW H → Nat
  | .lit (.string bytes) => bytes.length + 1
  | .lit _ => 1
  | .nil => 1
  | .ptr d => uptoBulk d + 1
  | .slice elems spare => uptoBulkAll elems + uptoBulkAll spare + 1
  | .agg parts => uptoBulkAll parts + 1
  | .iface _ d => uptoBulk d + 1
  | .map entries => uptoBulkEntries entries + 1
  | .held _ => 1
def uptoBulkAll {H : Type} : List (DataW H) → Nat
  | [] => 0
  | d :: r => uptoBulk d + uptoBulkAll r
def uptoBulkEntries {H : Type} : List (Lit × DataW H) → Nat
  | [] => 0
  | x :: r => uptoBulkEntry x + uptoBulkEntries r
def uptoBulkEntry {H : Type} : Lit × DataW H → Nat
  | (.string bytes, d) => bytes.length + uptoBulk d + 1
  | (_, d) => uptoBulk d + 1
 end
def uptoSmall : (H : Type) → List (DataW H) → Bool := fun _ ds => decide (uptoBulkAll ds ≤ 1048576)
def OpenSpec.upto (s : _root_.Go.ChangeSpec) : _root_.Go.OpenSpec := { _root_.Go.OpenSpec.ofChange s with cond := some uptoSmall }

/-- 'colonnadelaw6.SchmFits', WHERE WHAT IT READS IS OF BULK AT MOST 1048576: true; the input reads as it did. -/
def schmFitsUptoRow : OpenClaim := { program := "ytlkjdclhgmkndaa", sum := "8f241f0447ccf4ef253a0e8b806eb05875ad007aff8bbc345815c6b910e54836", func := "colonnade/colonnadelaw6.SchmFits", spec := "schmFits", inPlace := ["internal/bytealg.Compare"], unfollowed := true, recurses := true, apart := false, narrowed := true }
def SchmFitsUptoSaid : Prop := schmFitsUptoRow.holds Try.pinned (OpenSpec.upto schmFitsSpec)

/-- 'colonnadelaw6.SchmOrder', WHERE WHAT IT READS IS OF BULK AT MOST 1048576: true; the input reads as it did. -/
def schmOrderUptoRow : OpenClaim := { program := "ytlkjdclhgmkndaa", sum := "8f241f0447ccf4ef253a0e8b806eb05875ad007aff8bbc345815c6b910e54836", func := "colonnade/colonnadelaw6.SchmOrder", spec := "schmOrder", inPlace := ["internal/bytealg.Compare"], unfollowed := true, recurses := true, apart := false, narrowed := true }
def SchmOrderUptoSaid : Prop := schmOrderUptoRow.holds Try.pinned (OpenSpec.upto schmOrderSpec)

/-- 'colonnadelaw7.PredMore', WHERE WHAT IT READS IS OF BULK AT MOST 1048576: true; the input reads as it did. -/
def predMoreUptoRow : OpenClaim := { program := "ytlkjdclhgmkndaa", sum := "8f241f0447ccf4ef253a0e8b806eb05875ad007aff8bbc345815c6b910e54836", func := "colonnade/colonnadelaw7.PredMore", spec := "predMore", inPlace := ["internal/bytealg.Compare"], unfollowed := true, recurses := true, apart := false, narrowed := true }
def PredMoreUptoSaid : Prop := predMoreUptoRow.holds Try.pinned (OpenSpec.upto predMoreSpec)

/-- 'colonnadelaw7.PredLaws', WHERE WHAT IT READS IS OF BULK AT MOST 1048576: true; the input reads as it did. -/
def predLawsUptoRow : OpenClaim := { program := "ytlkjdclhgmkndaa", sum := "8f241f0447ccf4ef253a0e8b806eb05875ad007aff8bbc345815c6b910e54836", func := "colonnade/colonnadelaw7.PredLaws", spec := "predLaws", inPlace := ["internal/bytealg.Compare"], unfollowed := true, recurses := true, apart := false, narrowed := true }
def PredLawsUptoSaid : Prop := predLawsUptoRow.holds Try.pinned (OpenSpec.upto predLawsSpec)

/-- 'colonnadelaw7.PredOwn', WHERE WHAT IT READS IS OF BULK AT MOST 1048576: true; the input reads as it did. -/
def predOwnUptoRow : OpenClaim := { program := "ytlkjdclhgmkndaa", sum := "8f241f0447ccf4ef253a0e8b806eb05875ad007aff8bbc345815c6b910e54836", func := "colonnade/colonnadelaw7.PredOwn", spec := "predOwn", inPlace := ["internal/bytealg.Compare"], unfollowed := true, recurses := true, apart := false, narrowed := true }
def PredOwnUptoSaid : Prop := predOwnUptoRow.holds Try.pinned (OpenSpec.upto predOwnSpec)

/-- 'colonnadelaw7.PredDeep', WHERE WHAT IT READS IS OF BULK AT MOST 1048576: true; the input reads as it did. -/
def predDeepUptoRow : OpenClaim := { program := "ytlkjdclhgmkndaa", sum := "8f241f0447ccf4ef253a0e8b806eb05875ad007aff8bbc345815c6b910e54836", func := "colonnade/colonnadelaw7.PredDeep", spec := "predDeep", inPlace := ["internal/bytealg.Compare"], unfollowed := true, recurses := true, apart := false, narrowed := true }
def PredDeepUptoSaid : Prop := predDeepUptoRow.holds Try.pinned (OpenSpec.upto predDeepSpec)

/-- 'colonnadelaw12.DeltOwn', WHERE WHAT IT READS IS OF BULK AT MOST 1048576: true; the input reads as it did. -/
def deltOwnUptoRow : OpenClaim := { program := "ytlkjdclhgmkndaa", sum := "8f241f0447ccf4ef253a0e8b806eb05875ad007aff8bbc345815c6b910e54836", func := "colonnade/colonnadelaw12.DeltOwn", spec := "deltOwn", inPlace := ["slices.overlaps[colonnade/api.Version]"], unfollowed := true, recurses := true, apart := false, narrowed := true }
def DeltOwnUptoSaid : Prop := deltOwnUptoRow.holds Try.pinned (OpenSpec.upto deltOwnSpec)

/-- 'colonnadelaw12.DeltRoom', WHERE WHAT IT READS IS OF BULK AT MOST 1048576: true; the input reads as it did. -/
def deltRoomUptoRow : OpenClaim := { program := "ytlkjdclhgmkndaa", sum := "8f241f0447ccf4ef253a0e8b806eb05875ad007aff8bbc345815c6b910e54836", func := "colonnade/colonnadelaw12.DeltRoom", spec := "deltRoom", inPlace := ["slices.overlaps[colonnade/api.Version]"], unfollowed := true, recurses := true, apart := false, narrowed := true }
def DeltRoomUptoSaid : Prop := deltRoomUptoRow.holds Try.pinned (OpenSpec.upto deltRoomSpec)

/-- 'colonnadelaw4.IcolFar', WHERE WHAT IT READS IS OF BULK AT MOST 1048576: true; the input reads as it did. -/
def icolFarUptoRow : OpenClaim := { program := "ytlkjdclhgmkndaa", sum := "8f241f0447ccf4ef253a0e8b806eb05875ad007aff8bbc345815c6b910e54836", func := "colonnade/colonnadelaw4.IcolFar", spec := "icolFar", unfollowed := true, recurses := true, apart := false, narrowed := true }
def IcolFarUptoSaid : Prop := icolFarUptoRow.holds Try.pinned (OpenSpec.upto icolFarSpec)

/-- 'colonnadelaw4.IcolBack', WHERE WHAT IT READS IS OF BULK AT MOST 1048576: true; the input reads as it did. -/
def icolBackUptoRow : OpenClaim := { program := "ytlkjdclhgmkndaa", sum := "8f241f0447ccf4ef253a0e8b806eb05875ad007aff8bbc345815c6b910e54836", func := "colonnade/colonnadelaw4.IcolBack", spec := "icolBack", unfollowed := true, recurses := true, apart := false, narrowed := true }
def IcolBackUptoSaid : Prop := icolBackUptoRow.holds Try.pinned (OpenSpec.upto icolBackSpec)

/-- 'colonnadelaw4.IcolBest', WHERE WHAT IT READS IS OF BULK AT MOST 1048576: true; the input reads as it did. -/
def icolBestUptoRow : OpenClaim := { program := "ytlkjdclhgmkndaa", sum := "8f241f0447ccf4ef253a0e8b806eb05875ad007aff8bbc345815c6b910e54836", func := "colonnade/colonnadelaw4.IcolBest", spec := "icolBest", unfollowed := true, recurses := true, apart := false, narrowed := true }
def IcolBestUptoSaid : Prop := icolBestUptoRow.holds Try.pinned (OpenSpec.upto icolBestSpec)

/-- 'colonnadelaw4.IcolTells', WHERE WHAT IT READS IS OF BULK AT MOST 1048576: true; the input reads as it did. -/
def icolTellsUptoRow : OpenClaim := { program := "ytlkjdclhgmkndaa", sum := "8f241f0447ccf4ef253a0e8b806eb05875ad007aff8bbc345815c6b910e54836", func := "colonnade/colonnadelaw4.IcolTells", spec := "icolTells", unfollowed := true, recurses := true, apart := false, narrowed := true }
def IcolTellsUptoSaid : Prop := icolTellsUptoRow.holds Try.pinned (OpenSpec.upto icolTellsSpec)

end Rows
end Go.Proofs.Ytlkjdclhgmkndaa
