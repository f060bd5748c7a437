/-
  No cell of these rows narrows 'for every input' (looked for: loops, veiled, ifaces, maps, wideKeys, modest, calm, conditions, laid).
  DERIVED. THE GIVEN ROWS OF THIS SEAT. 12 by the template 'for every input the law returns true; each argument reads behind the call as it read before'; 0 by the template 'total and deterministic' (their statements: YtpabneinikbneaaTotals.lean).
  GIVEN WITH THE SEED: the statements are not yours to turn. If you find one false, say at which input.
  Laid BY PROGRAM, IN A SANDBOX (cutbox-rows.mjs): the forced cells as the released guide's own fill.sh prints them over the translation e1052fc995b84a4c… (all of the seat's roots in one cut). By AI agents, Wed Nov 11 2026. No macro, syntax, notation, axiom, sorry.
-/
import Derived.Test.YtpabneinikbneaaChecked
import GoSem.Claim
import GoSem.ClaimJoined
import GoSem.ClaimMapViews
import Derived.JoinedTies
import Derived.KernelRfl
namespace Go.Proofs.Ytpabneinikbneaa
/- THE CELL 'sum', in the pinned program and in every row, IS THE sha256 OF THE DUMP (.gsa) THAT YtpabneinikbneaaProg.lean LOADS. Nothing in Lean hashes anything: it is a label: what it is worth is what the hold of that sum in a sandbox is worth. -/
noncomputable def Try.pinned : Pinned := { name := "ytpabneinikbneaa", sum := "e1052fc995b84a4ca2d727848ee39d1b8761e19ed9634eff3ae3a5397556ac30", checked := Try.checked }
namespace Rows
def none {H : Type} : Left H := { results := [], args := [] }

/-- 'colonnadelaw7.PredDeep': WHATEVER THE INPUT: true; the input reads as it did. -/
def predDeepSpec : ChangeSpec := { name := "predDeep", fn := fun _ => fun
  | [d1, d2, d3] => { results := [.lit (.bool true)], args := [d1, d2, d3] }
  | _ => none }
def predDeepRow : OpenClaim := { program := "ytpabneinikbneaa", sum := "e1052fc995b84a4ca2d727848ee39d1b8761e19ed9634eff3ae3a5397556ac30", func := "colonnade/colonnadelaw7.PredDeep", spec := "predDeep", inPlace := ["internal/bytealg.Compare"], unfollowed := true, recurses := true, apart := false }
def PredDeepSaid : Prop := predDeepRow.holds Try.pinned (OpenSpec.ofChange predDeepSpec)

/-- ITS FALSE NEIGHBOUR: 'it returns false'. Refute it at one input. -/
def predDeepWrong : ChangeSpec := { name := "predDeep", fn := fun _ => fun
  | [d1, d2, d3] => { results := [.lit (.bool false)], args := [d1, d2, d3] }
  | _ => none }
def PredDeepWrongFalsely : Prop := predDeepRow.holds Try.pinned (OpenSpec.ofChange predDeepWrong)

/-- 'colonnadelaw8.NormTwice': WHATEVER THE INPUT: true; the input reads as it did. -/
def normTwiceSpec : ChangeSpec := { name := "normTwice", fn := fun _ => fun
  | [d1, d2] => { results := [.lit (.bool true)], args := [d1, d2] }
  | _ => none }
def normTwiceRow : OpenClaim := { program := "ytpabneinikbneaa", sum := "e1052fc995b84a4ca2d727848ee39d1b8761e19ed9634eff3ae3a5397556ac30", func := "colonnade/colonnadelaw8.NormTwice", spec := "normTwice", unfollowed := true, recurses := true, apart := false }
def NormTwiceSaid : Prop := normTwiceRow.holds Try.pinned (OpenSpec.ofChange normTwiceSpec)

/-- ITS FALSE NEIGHBOUR: 'it returns false'. Refute it at one input. -/
def normTwiceWrong : ChangeSpec := { name := "normTwice", fn := fun _ => fun
  | [d1, d2] => { results := [.lit (.bool false)], args := [d1, d2] }
  | _ => none }
def NormTwiceWrongFalsely : Prop := normTwiceRow.holds Try.pinned (OpenSpec.ofChange normTwiceWrong)

/-- 'colonnadelaw8.NormKeys': WHATEVER THE INPUT: true; the input reads as it did. -/
def normKeysSpec : ChangeSpec := { name := "normKeys", fn := fun _ => fun
  | [d1, d2, d3, d4] => { results := [.lit (.bool true)], args := [d1, d2, d3, d4] }
  | _ => none }
def normKeysRow : OpenClaim := { program := "ytpabneinikbneaa", sum := "e1052fc995b84a4ca2d727848ee39d1b8761e19ed9634eff3ae3a5397556ac30", func := "colonnade/colonnadelaw8.NormKeys", spec := "normKeys", unfollowed := true, recurses := true, apart := false }
def NormKeysSaid : Prop := normKeysRow.holds Try.pinned (OpenSpec.ofChange normKeysSpec)

/-- ITS FALSE NEIGHBOUR: 'it returns false'. Refute it at one input. -/
def normKeysWrong : ChangeSpec := { name := "normKeys", fn := fun _ => fun
  | [d1, d2, d3, d4] => { results := [.lit (.bool false)], args := [d1, d2, d3, d4] }
  | _ => none }
def NormKeysWrongFalsely : Prop := normKeysRow.holds Try.pinned (OpenSpec.ofChange normKeysWrong)

/-- 'colonnadelaw8.NormSame': WHATEVER THE INPUT: true; the input reads as it did. -/
def normSameSpec : ChangeSpec := { name := "normSame", fn := fun _ => fun
  | [d1, d2, d3] => { results := [.lit (.bool true)], args := [d1, d2, d3] }
  | _ => none }
def normSameRow : OpenClaim := { program := "ytpabneinikbneaa", sum := "e1052fc995b84a4ca2d727848ee39d1b8761e19ed9634eff3ae3a5397556ac30", func := "colonnade/colonnadelaw8.NormSame", spec := "normSame", unfollowed := true, recurses := true, apart := false }
def NormSameSaid : Prop := normSameRow.holds Try.pinned (OpenSpec.ofChange normSameSpec)

/-- ITS FALSE NEIGHBOUR: 'it returns false'. Refute it at one input. -/
def normSameWrong : ChangeSpec := { name := "normSame", fn := fun _ => fun
  | [d1, d2, d3] => { results := [.lit (.bool false)], args := [d1, d2, d3] }
  | _ => none }
def NormSameWrongFalsely : Prop := normSameRow.holds Try.pinned (OpenSpec.ofChange normSameWrong)

/-- 'colonnadelaw8.NormTells': WHATEVER THE INPUT: true; the input reads as it did. -/
def normTellsSpec : ChangeSpec := { name := "normTells", fn := fun _ => fun
  | [d1, d2, d3] => { results := [.lit (.bool true)], args := [d1, d2, d3] }
  | _ => none }
def normTellsRow : OpenClaim := { program := "ytpabneinikbneaa", sum := "e1052fc995b84a4ca2d727848ee39d1b8761e19ed9634eff3ae3a5397556ac30", func := "colonnade/colonnadelaw8.NormTells", spec := "normTells", unfollowed := true, recurses := true, apart := false }
def NormTellsSaid : Prop := normTellsRow.holds Try.pinned (OpenSpec.ofChange normTellsSpec)

/-- ITS FALSE NEIGHBOUR: 'it returns false'. Refute it at one input. -/
def normTellsWrong : ChangeSpec := { name := "normTells", fn := fun _ => fun
  | [d1, d2, d3] => { results := [.lit (.bool false)], args := [d1, d2, d3] }
  | _ => none }
def NormTellsWrongFalsely : Prop := normTellsRow.holds Try.pinned (OpenSpec.ofChange normTellsWrong)

/-- 'colonnadelaw9.ZoneGrows': WHATEVER THE INPUT: true; the input reads as it did. -/
def zoneGrowsSpec : ChangeSpec := { name := "zoneGrows", fn := fun _ => fun
  | [d1, d2, d3] => { results := [.lit (.bool true)], args := [d1, d2, d3] }
  | _ => none }
def zoneGrowsRow : OpenClaim := { program := "ytpabneinikbneaa", sum := "e1052fc995b84a4ca2d727848ee39d1b8761e19ed9634eff3ae3a5397556ac30", func := "colonnade/colonnadelaw9.ZoneGrows", spec := "zoneGrows", inPlace := ["internal/bytealg.Compare"], unfollowed := true, recurses := true, apart := false }
def ZoneGrowsSaid : Prop := zoneGrowsRow.holds Try.pinned (OpenSpec.ofChange zoneGrowsSpec)

/-- ITS FALSE NEIGHBOUR: 'it returns false'. Refute it at one input. -/
def zoneGrowsWrong : ChangeSpec := { name := "zoneGrows", fn := fun _ => fun
  | [d1, d2, d3] => { results := [.lit (.bool false)], args := [d1, d2, d3] }
  | _ => none }
def ZoneGrowsWrongFalsely : Prop := zoneGrowsRow.holds Try.pinned (OpenSpec.ofChange zoneGrowsWrong)

/-- 'colonnadelaw9.ZoneBytes': WHATEVER THE INPUT: true; the input reads as it did. -/
def zoneBytesSpec : ChangeSpec := { name := "zoneBytes", fn := fun _ => fun
  | [d1, d2] => { results := [.lit (.bool true)], args := [d1, d2] }
  | _ => none }
def zoneBytesRow : OpenClaim := { program := "ytpabneinikbneaa", sum := "e1052fc995b84a4ca2d727848ee39d1b8761e19ed9634eff3ae3a5397556ac30", func := "colonnade/colonnadelaw9.ZoneBytes", spec := "zoneBytes", inPlace := ["internal/bytealg.Compare"], unfollowed := true, recurses := true, apart := false }
def ZoneBytesSaid : Prop := zoneBytesRow.holds Try.pinned (OpenSpec.ofChange zoneBytesSpec)

/-- ITS FALSE NEIGHBOUR: 'it returns false'. Refute it at one input. -/
def zoneBytesWrong : ChangeSpec := { name := "zoneBytes", fn := fun _ => fun
  | [d1, d2] => { results := [.lit (.bool false)], args := [d1, d2] }
  | _ => none }
def ZoneBytesWrongFalsely : Prop := zoneBytesRow.holds Try.pinned (OpenSpec.ofChange zoneBytesWrong)

/-- 'colonnadelaw9.ZoneSafe': WHATEVER THE INPUT: true; the input reads as it did. -/
def zoneSafeSpec : ChangeSpec := { name := "zoneSafe", fn := fun _ => fun
  | [d1, d2, d3] => { results := [.lit (.bool true)], args := [d1, d2, d3] }
  | _ => none }
def zoneSafeRow : OpenClaim := { program := "ytpabneinikbneaa", sum := "e1052fc995b84a4ca2d727848ee39d1b8761e19ed9634eff3ae3a5397556ac30", func := "colonnade/colonnadelaw9.ZoneSafe", spec := "zoneSafe", inPlace := ["internal/bytealg.Compare"], unfollowed := true, recurses := true, apart := false }
def ZoneSafeSaid : Prop := zoneSafeRow.holds Try.pinned (OpenSpec.ofChange zoneSafeSpec)

/-- ITS FALSE NEIGHBOUR: 'it returns false'. Refute it at one input. -/
def zoneSafeWrong : ChangeSpec := { name := "zoneSafe", fn := fun _ => fun
  | [d1, d2, d3] => { results := [.lit (.bool false)], args := [d1, d2, d3] }
  | _ => none }
def ZoneSafeWrongFalsely : Prop := zoneSafeRow.holds Try.pinned (OpenSpec.ofChange zoneSafeWrong)

/-- 'colonnadelaw12.DeltOwn': WHATEVER THE INPUT: true; the input reads as it did. -/
def deltOwnSpec : ChangeSpec := { name := "deltOwn", fn := fun _ => fun
  | [d1, d2] => { results := [.lit (.bool true)], args := [d1, d2] }
  | _ => none }
def deltOwnRow : OpenClaim := { program := "ytpabneinikbneaa", sum := "e1052fc995b84a4ca2d727848ee39d1b8761e19ed9634eff3ae3a5397556ac30", func := "colonnade/colonnadelaw12.DeltOwn", spec := "deltOwn", inPlace := ["slices.overlaps[colonnade/api.Version]"], unfollowed := true, recurses := true, apart := false }
def DeltOwnSaid : Prop := deltOwnRow.holds Try.pinned (OpenSpec.ofChange deltOwnSpec)

/-- ITS FALSE NEIGHBOUR: 'it returns false'. Refute it at one input. -/
def deltOwnWrong : ChangeSpec := { name := "deltOwn", fn := fun _ => fun
  | [d1, d2] => { results := [.lit (.bool false)], args := [d1, d2] }
  | _ => none }
def DeltOwnWrongFalsely : Prop := deltOwnRow.holds Try.pinned (OpenSpec.ofChange deltOwnWrong)

/-- 'colonnadelaw12.DeltRoom': WHATEVER THE INPUT: true; the input reads as it did. -/
def deltRoomSpec : ChangeSpec := { name := "deltRoom", fn := fun _ => fun
  | [d] => { results := [.lit (.bool true)], args := [d] }
  | _ => none }
def deltRoomRow : OpenClaim := { program := "ytpabneinikbneaa", sum := "e1052fc995b84a4ca2d727848ee39d1b8761e19ed9634eff3ae3a5397556ac30", func := "colonnade/colonnadelaw12.DeltRoom", spec := "deltRoom", inPlace := ["slices.overlaps[colonnade/api.Version]"], unfollowed := true, recurses := true, apart := false }
def DeltRoomSaid : Prop := deltRoomRow.holds Try.pinned (OpenSpec.ofChange deltRoomSpec)

/-- ITS FALSE NEIGHBOUR: 'it returns false'. Refute it at one input. -/
def deltRoomWrong : ChangeSpec := { name := "deltRoom", fn := fun _ => fun
  | [d] => { results := [.lit (.bool false)], args := [d] }
  | _ => none }
def DeltRoomWrongFalsely : Prop := deltRoomRow.holds Try.pinned (OpenSpec.ofChange deltRoomWrong)

/-- 'colonnadelaw4.IcolFar': WHATEVER THE INPUT: true; the input reads as it did. -/
def icolFarSpec : ChangeSpec := { name := "icolFar", fn := fun _ => fun
  | [d] => { results := [.lit (.bool true)], args := [d] }
  | _ => none }
def icolFarRow : OpenClaim := { program := "ytpabneinikbneaa", sum := "e1052fc995b84a4ca2d727848ee39d1b8761e19ed9634eff3ae3a5397556ac30", func := "colonnade/colonnadelaw4.IcolFar", spec := "icolFar", unfollowed := true, recurses := true, apart := false }
def IcolFarSaid : Prop := icolFarRow.holds Try.pinned (OpenSpec.ofChange icolFarSpec)

/-- ITS FALSE NEIGHBOUR: 'it returns false'. Refute it at one input. -/
def icolFarWrong : ChangeSpec := { name := "icolFar", fn := fun _ => fun
  | [d] => { results := [.lit (.bool false)], args := [d] }
  | _ => none }
def IcolFarWrongFalsely : Prop := icolFarRow.holds Try.pinned (OpenSpec.ofChange icolFarWrong)

/-- 'colonnadelaw4.IcolBack': WHATEVER THE INPUT: true; the input reads as it did. -/
def icolBackSpec : ChangeSpec := { name := "icolBack", fn := fun _ => fun
  | [d1, d2] => { results := [.lit (.bool true)], args := [d1, d2] }
  | _ => none }
def icolBackRow : OpenClaim := { program := "ytpabneinikbneaa", sum := "e1052fc995b84a4ca2d727848ee39d1b8761e19ed9634eff3ae3a5397556ac30", func := "colonnade/colonnadelaw4.IcolBack", spec := "icolBack", unfollowed := true, recurses := true, apart := false }
def IcolBackSaid : Prop := icolBackRow.holds Try.pinned (OpenSpec.ofChange icolBackSpec)

/-- ITS FALSE NEIGHBOUR: 'it returns false'. Refute it at one input. -/
def icolBackWrong : ChangeSpec := { name := "icolBack", fn := fun _ => fun
  | [d1, d2] => { results := [.lit (.bool false)], args := [d1, d2] }
  | _ => none }
def IcolBackWrongFalsely : Prop := icolBackRow.holds Try.pinned (OpenSpec.ofChange icolBackWrong)

/- THE SECOND FORM. 'bulk': how many values and letters a reading holds, each counted each time it is reached (what is shared counts as often as it is met; a slice's spare places count too). A statement '..UptoSaid' is the law's where the arguments, and the package variables that the reading takes, are together of bulk at most 1048576: NARROWER than '..Said'. Prove '..Said' where nothing that the law and all that it calls make is longer than what came in: it says more and counts as full. Else prove '..UptoSaid'. A law counts once. -/
mutual
def uptoBulk {H : Type} : DataW H → Nat
  | .lit (.string bytes) => bytes.length + 1
  | .lit _ => 1
  | .nil => 1
  | .ptr d => uptoBulk d + 1
  | .slice elems spare => uptoBulkAll elems + uptoBulkAll spare + 1
  | .agg parts => uptoBulkAll parts + 1
  | .iface _ d => uptoBulk d + 1
  | .map entries => uptoBulkEntries entries + 1
  | .held _ => 1
def uptoBulkAll {H : Type} : List (DataW H) → Nat
  | [] => 0
  | d :: r => uptoBulk d + uptoBulkAll r
def uptoBulkEntries {H : Type} : List (Lit × DataW H) → Nat
  | [] => 0
  | x :: r => uptoBulkEntry x + uptoBulkEntries r
def uptoBulkEntry {H : Type} : Lit × DataW H → Nat
  | (.string bytes, d) => bytes.length + uptoBulk d + 1
  | (_, d) => uptoBulk d + 1
 end
def uptoSmall : (H : Type) → List (DataW H) → Bool := fun _ ds => decide (uptoBulkAll ds ≤ 1048576)
def OpenSpec.upto (s : _root_.Go.ChangeSpec) : _root_.Go.OpenSpec := { _root_.Go.OpenSpec.ofChange s with cond := some uptoSmall }

/-- 'colonnadelaw7.PredDeep', WHERE WHAT IT READS IS OF BULK AT MOST 1048576: true; the input reads as it did. -/
def predDeepUptoRow : OpenClaim := { program := "ytpabneinikbneaa", sum := "e1052fc995b84a4ca2d727848ee39d1b8761e19ed9634eff3ae3a5397556ac30", func := "colonnade/colonnadelaw7.PredDeep", spec := "predDeep", inPlace := ["internal/bytealg.Compare"], unfollowed := true, recurses := true, apart := false, narrowed := true }
def PredDeepUptoSaid : Prop := predDeepUptoRow.holds Try.pinned (OpenSpec.upto predDeepSpec)

/-- 'colonnadelaw8.NormTwice', WHERE WHAT IT READS IS OF BULK AT MOST 1048576: true; the input reads as it did. -/
def normTwiceUptoRow : OpenClaim := { program := "ytpabneinikbneaa", sum := "e1052fc995b84a4ca2d727848ee39d1b8761e19ed9634eff3ae3a5397556ac30", func := "colonnade/colonnadelaw8.NormTwice", spec := "normTwice", unfollowed := true, recurses := true, apart := false, narrowed := true }
def NormTwiceUptoSaid : Prop := normTwiceUptoRow.holds Try.pinned (OpenSpec.upto normTwiceSpec)

/-- 'colonnadelaw8.NormKeys', WHERE WHAT IT READS IS OF BULK AT MOST 1048576: true; the input reads as it did. -/
def normKeysUptoRow : OpenClaim := { program := "ytpabneinikbneaa", sum := "e1052fc995b84a4ca2d727848ee39d1b8761e19ed9634eff3ae3a5397556ac30", func := "colonnade/colonnadelaw8.NormKeys", spec := "normKeys", unfollowed := true, recurses := true, apart := false, narrowed := true }
def NormKeysUptoSaid : Prop := normKeysUptoRow.holds Try.pinned (OpenSpec.upto normKeysSpec)

/-- 'colonnadelaw8.NormSame', WHERE WHAT IT READS IS OF BULK AT MOST 1048576: true; the input reads as it did. -/
def normSameUptoRow : OpenClaim := { program := "ytpabneinikbneaa", sum := "e1052fc995b84a4ca2d727848ee39d1b8761e19ed9634eff3ae3a5397556ac30", func := "colonnade/colonnadelaw8.NormSame", spec := "normSame", unfollowed := true, recurses := true, apart := false, narrowed := true }
def NormSameUptoSaid : Prop := normSameUptoRow.holds Try.pinned (OpenSpec.upto normSameSpec)

/-- 'colonnadelaw8.NormTells', WHERE WHAT IT READS IS OF BULK AT MOST 1048576: true; the input reads as it did. -/
def normTellsUptoRow : OpenClaim := { program := "ytpabneinikbneaa", sum := "e1052fc995b84a4ca2d727848ee39d1b8761e19ed9634eff3ae3a5397556ac30", func := "colonnade/colonnadelaw8.NormTells", spec := "normTells", unfollowed := true, recurses := true, apart := false, narrowed := true }
def NormTellsUptoSaid : Prop := normTellsUptoRow.holds Try.pinned (OpenSpec.upto normTellsSpec)

/-- 'colonnadelaw9.ZoneGrows', WHERE WHAT IT READS IS OF BULK AT MOST 1048576: true; the input reads as it did. -/
def zoneGrowsUptoRow : OpenClaim := { program := "ytpabneinikbneaa", sum := "e1052fc995b84a4ca2d727848ee39d1b8761e19ed9634eff3ae3a5397556ac30", func := "colonnade/colonnadelaw9.ZoneGrows", spec := "zoneGrows", inPlace := ["internal/bytealg.Compare"], unfollowed := true, recurses := true, apart := false, narrowed := true }
def ZoneGrowsUptoSaid : Prop := zoneGrowsUptoRow.holds Try.pinned (OpenSpec.upto zoneGrowsSpec)

/-- 'colonnadelaw9.ZoneBytes', WHERE WHAT IT READS IS OF BULK AT MOST 1048576: true; the input reads as it did. -/
def zoneBytesUptoRow : OpenClaim := { program := "ytpabneinikbneaa", sum := "e1052fc995b84a4ca2d727848ee39d1b8761e19ed9634eff3ae3a5397556ac30", func := "colonnade/colonnadelaw9.ZoneBytes", spec := "zoneBytes", inPlace := ["internal/bytealg.Compare"], unfollowed := true, recurses := true, apart := false, narrowed := true }
def ZoneBytesUptoSaid : Prop := zoneBytesUptoRow.holds Try.pinned (OpenSpec.upto zoneBytesSpec)

/-- 'colonnadelaw9.ZoneSafe', WHERE WHAT IT READS IS OF BULK AT MOST 1048576: true; the input reads as it did. -/
def zoneSafeUptoRow : OpenClaim := { program := "ytpabneinikbneaa", sum := "e1052fc995b84a4ca2d727848ee39d1b8761e19ed9634eff3ae3a5397556ac30", func := "colonnade/colonnadelaw9.ZoneSafe", spec := "zoneSafe", inPlace := ["internal/bytealg.Compare"], unfollowed := true, recurses := true, apart := false, narrowed := true }
def ZoneSafeUptoSaid : Prop := zoneSafeUptoRow.holds Try.pinned (OpenSpec.upto zoneSafeSpec)

/-- 'colonnadelaw12.DeltOwn', WHERE WHAT IT READS IS OF BULK AT MOST 1048576: true; the input reads as it did. -/
def deltOwnUptoRow : OpenClaim := { program := "ytpabneinikbneaa", sum := "e1052fc995b84a4ca2d727848ee39d1b8761e19ed9634eff3ae3a5397556ac30", func := "colonnade/colonnadelaw12.DeltOwn", spec := "deltOwn", inPlace := ["slices.overlaps[colonnade/api.Version]"], unfollowed := true, recurses := true, apart := false, narrowed := true }
def DeltOwnUptoSaid : Prop := deltOwnUptoRow.holds Try.pinned (OpenSpec.upto deltOwnSpec)

/-- 'colonnadelaw12.DeltRoom', WHERE WHAT IT READS IS OF BULK AT MOST 1048576: true; the input reads as it did. -/
def deltRoomUptoRow : OpenClaim := { program := "ytpabneinikbneaa", sum := "e1052fc995b84a4ca2d727848ee39d1b8761e19ed9634eff3ae3a5397556ac30", func := "colonnade/colonnadelaw12.DeltRoom", spec := "deltRoom", inPlace := ["slices.overlaps[colonnade/api.Version]"], unfollowed := true, recurses := true, apart := false, narrowed := true }
def DeltRoomUptoSaid : Prop := deltRoomUptoRow.holds Try.pinned (OpenSpec.upto deltRoomSpec)

/-- 'colonnadelaw4.IcolFar', WHERE WHAT IT READS IS OF BULK AT MOST 1048576: true; the input reads as it did. -/
def icolFarUptoRow : OpenClaim := { program := "ytpabneinikbneaa", sum := "e1052fc995b84a4ca2d727848ee39d1b8761e19ed9634eff3ae3a5397556ac30", func := "colonnade/colonnadelaw4.IcolFar", spec := "icolFar", unfollowed := true, recurses := true, apart := false, narrowed := true }
def IcolFarUptoSaid : Prop := icolFarUptoRow.holds Try.pinned (OpenSpec.upto icolFarSpec)

/-- 'colonnadelaw4.IcolBack', WHERE WHAT IT READS IS OF BULK AT MOST 1048576: true; the input reads as it did. -/
def icolBackUptoRow : OpenClaim := { program := "ytpabneinikbneaa", sum := "e1052fc995b84a4ca2d727848ee39d1b8761e19ed9634eff3ae3a5397556ac30", func := "colonnade/colonnadelaw4.IcolBack", spec := "icolBack", unfollowed := true, recurses := true, apart := false, narrowed := true }
def IcolBackUptoSaid : Prop := icolBackUptoRow.holds Try.pinned (OpenSpec.upto icolBackSpec)

end Rows
end Go.Proofs.Ytpabneinikbneaa
