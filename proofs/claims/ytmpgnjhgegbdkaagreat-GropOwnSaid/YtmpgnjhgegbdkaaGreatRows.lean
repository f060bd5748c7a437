/-
  No cell of these rows narrows 'for every input' (looked for: loops, veiled, ifaces, maps, wideKeys, modest, calm, conditions, laid).
  DERIVED. THE GIVEN ROWS OF THIS SEAT. 10 by the template 'for every input the law returns true; each argument reads behind the call as it read before'; 0 by the template 'total and deterministic' (their statements: YtmpgnjhgegbdkaaGreatTotals.lean).
  GIVEN WITH THE SEED: the statements are not yours to turn. If you find one false, say at which input.
  Laid BY PROGRAM, IN A SANDBOX (cutbox-rows.mjs): the forced cells as the released guide's own fill.sh prints them over the translation bbaef2ac66f9b205… (all of the seat's roots in one cut). By AI agents, Wed Nov 11 2026. No macro, syntax, notation, axiom, sorry.
-/
import Derived.Test.YtmpgnjhgegbdkaaGreatChecked
import GoSem.Claim
import GoSem.ClaimJoined
import GoSem.ClaimMapViews
import Derived.JoinedTies
import Derived.KernelRfl
namespace Go.Proofs.YtmpgnjhgegbdkaaGreat
/- THE CELL 'sum', in the pinned program and in every row, IS THE sha256 OF THE DUMP (.gsa) THAT YtmpgnjhgegbdkaaGreatProg.lean LOADS. Nothing in Lean hashes anything: it is a label: what it is worth is what the hold of that sum in a sandbox is worth. -/
noncomputable def Tryz.pinned : Pinned := { name := "ytmpgnjhgegbdkaagreat", sum := "bbaef2ac66f9b205fa8f8c233d3ede132e1123a89ce26fbc161d534ac15013ad", checked := Tryz.checked }
namespace Rows
def none {H : Type} : Left H := { results := [], args := [] }

/-- 'colonnadelaw10.SegmMany': WHATEVER THE INPUT: true; the input reads as it did. -/
def segmManySpec : ChangeSpec := { name := "segmMany", fn := fun _ => fun
  | [d1, d2, d3] => { results := [.lit (.bool true)], args := [d1, d2, d3] }
  | _ => none }
def segmManyRow : OpenClaim := { program := "ytmpgnjhgegbdkaagreat", sum := "bbaef2ac66f9b205fa8f8c233d3ede132e1123a89ce26fbc161d534ac15013ad", func := "colonnade/colonnadelaw10.SegmMany", spec := "segmMany", inPlace := ["internal/bytealg.Compare"], unfollowed := true, recurses := true, apart := false }
def SegmManySaid : Prop := segmManyRow.holds Tryz.pinned (OpenSpec.ofChange segmManySpec)

/-- ITS FALSE NEIGHBOUR: 'it returns false'. Refute it at one input. -/
def segmManyWrong : ChangeSpec := { name := "segmMany", fn := fun _ => fun
  | [d1, d2, d3] => { results := [.lit (.bool false)], args := [d1, d2, d3] }
  | _ => none }
def SegmManyWrongFalsely : Prop := segmManyRow.holds Tryz.pinned (OpenSpec.ofChange segmManyWrong)

/-- 'colonnadelaw10.SegmSmall': WHATEVER THE INPUT: true; the input reads as it did. -/
def segmSmallSpec : ChangeSpec := { name := "segmSmall", fn := fun _ => fun
  | [d1, d2] => { results := [.lit (.bool true)], args := [d1, d2] }
  | _ => none }
def segmSmallRow : OpenClaim := { program := "ytmpgnjhgegbdkaagreat", sum := "bbaef2ac66f9b205fa8f8c233d3ede132e1123a89ce26fbc161d534ac15013ad", func := "colonnade/colonnadelaw10.SegmSmall", spec := "segmSmall", inPlace := ["internal/bytealg.Compare"], unfollowed := true, recurses := true, apart := false }
def SegmSmallSaid : Prop := segmSmallRow.holds Tryz.pinned (OpenSpec.ofChange segmSmallSpec)

/-- ITS FALSE NEIGHBOUR: 'it returns false'. Refute it at one input. -/
def segmSmallWrong : ChangeSpec := { name := "segmSmall", fn := fun _ => fun
  | [d1, d2] => { results := [.lit (.bool false)], args := [d1, d2] }
  | _ => none }
def SegmSmallWrongFalsely : Prop := segmSmallRow.holds Tryz.pinned (OpenSpec.ofChange segmSmallWrong)

/-- 'colonnadelaw10.SegmBack': WHATEVER THE INPUT: true; the input reads as it did. -/
def segmBackSpec : ChangeSpec := { name := "segmBack", fn := fun _ => fun
  | [d1, d2] => { results := [.lit (.bool true)], args := [d1, d2] }
  | _ => none }
def segmBackRow : OpenClaim := { program := "ytmpgnjhgegbdkaagreat", sum := "bbaef2ac66f9b205fa8f8c233d3ede132e1123a89ce26fbc161d534ac15013ad", func := "colonnade/colonnadelaw10.SegmBack", spec := "segmBack", inPlace := ["internal/bytealg.Compare"], unfollowed := true, recurses := true, apart := false }
def SegmBackSaid : Prop := segmBackRow.holds Tryz.pinned (OpenSpec.ofChange segmBackSpec)

/-- ITS FALSE NEIGHBOUR: 'it returns false'. Refute it at one input. -/
def segmBackWrong : ChangeSpec := { name := "segmBack", fn := fun _ => fun
  | [d1, d2] => { results := [.lit (.bool false)], args := [d1, d2] }
  | _ => none }
def SegmBackWrongFalsely : Prop := segmBackRow.holds Tryz.pinned (OpenSpec.ofChange segmBackWrong)

/-- 'colonnadelaw10.SegmAny': WHATEVER THE INPUT: true; the input reads as it did. -/
def segmAnySpec : ChangeSpec := { name := "segmAny", fn := fun _ => fun
  | [d1, d2, d3, d4, d5] => { results := [.lit (.bool true)], args := [d1, d2, d3, d4, d5] }
  | _ => none }
def segmAnyRow : OpenClaim := { program := "ytmpgnjhgegbdkaagreat", sum := "bbaef2ac66f9b205fa8f8c233d3ede132e1123a89ce26fbc161d534ac15013ad", func := "colonnade/colonnadelaw10.SegmAny", spec := "segmAny", inPlace := ["internal/bytealg.Compare"], unfollowed := true, recurses := true, apart := false }
def SegmAnySaid : Prop := segmAnyRow.holds Tryz.pinned (OpenSpec.ofChange segmAnySpec)

/-- ITS FALSE NEIGHBOUR: 'it returns false'. Refute it at one input. -/
def segmAnyWrong : ChangeSpec := { name := "segmAny", fn := fun _ => fun
  | [d1, d2, d3, d4, d5] => { results := [.lit (.bool false)], args := [d1, d2, d3, d4, d5] }
  | _ => none }
def SegmAnyWrongFalsely : Prop := segmAnyRow.holds Tryz.pinned (OpenSpec.ofChange segmAnyWrong)

/-- 'colonnadelaw10.SegmPicks': WHATEVER THE INPUT: true; the input reads as it did. -/
def segmPicksSpec : ChangeSpec := { name := "segmPicks", fn := fun _ => fun
  | [d1, d2, d3] => { results := [.lit (.bool true)], args := [d1, d2, d3] }
  | _ => none }
def segmPicksRow : OpenClaim := { program := "ytmpgnjhgegbdkaagreat", sum := "bbaef2ac66f9b205fa8f8c233d3ede132e1123a89ce26fbc161d534ac15013ad", func := "colonnade/colonnadelaw10.SegmPicks", spec := "segmPicks", inPlace := ["internal/bytealg.Compare"], unfollowed := true, recurses := true, apart := false }
def SegmPicksSaid : Prop := segmPicksRow.holds Tryz.pinned (OpenSpec.ofChange segmPicksSpec)

/-- ITS FALSE NEIGHBOUR: 'it returns false'. Refute it at one input. -/
def segmPicksWrong : ChangeSpec := { name := "segmPicks", fn := fun _ => fun
  | [d1, d2, d3] => { results := [.lit (.bool false)], args := [d1, d2, d3] }
  | _ => none }
def SegmPicksWrongFalsely : Prop := segmPicksRow.holds Tryz.pinned (OpenSpec.ofChange segmPicksWrong)

/-- 'colonnadelaw10.SegmOwn': WHATEVER THE INPUT: true; the input reads as it did. -/
def segmOwnSpec : ChangeSpec := { name := "segmOwn", fn := fun _ => fun
  | [d1, d2] => { results := [.lit (.bool true)], args := [d1, d2] }
  | _ => none }
def segmOwnRow : OpenClaim := { program := "ytmpgnjhgegbdkaagreat", sum := "bbaef2ac66f9b205fa8f8c233d3ede132e1123a89ce26fbc161d534ac15013ad", func := "colonnade/colonnadelaw10.SegmOwn", spec := "segmOwn", inPlace := ["internal/bytealg.Compare"], unfollowed := true, recurses := true, apart := false }
def SegmOwnSaid : Prop := segmOwnRow.holds Tryz.pinned (OpenSpec.ofChange segmOwnSpec)

/-- ITS FALSE NEIGHBOUR: 'it returns false'. Refute it at one input. -/
def segmOwnWrong : ChangeSpec := { name := "segmOwn", fn := fun _ => fun
  | [d1, d2] => { results := [.lit (.bool false)], args := [d1, d2] }
  | _ => none }
def SegmOwnWrongFalsely : Prop := segmOwnRow.holds Tryz.pinned (OpenSpec.ofChange segmOwnWrong)

/-- 'colonnadelaw10.SegmParts': WHATEVER THE INPUT: true; the input reads as it did. -/
def segmPartsSpec : ChangeSpec := { name := "segmParts", fn := fun _ => fun
  | [d1, d2, d3, d4] => { results := [.lit (.bool true)], args := [d1, d2, d3, d4] }
  | _ => none }
def segmPartsRow : OpenClaim := { program := "ytmpgnjhgegbdkaagreat", sum := "bbaef2ac66f9b205fa8f8c233d3ede132e1123a89ce26fbc161d534ac15013ad", func := "colonnade/colonnadelaw10.SegmParts", spec := "segmParts", inPlace := ["internal/bytealg.Compare"], unfollowed := true, recurses := true, apart := false }
def SegmPartsSaid : Prop := segmPartsRow.holds Tryz.pinned (OpenSpec.ofChange segmPartsSpec)

/-- ITS FALSE NEIGHBOUR: 'it returns false'. Refute it at one input. -/
def segmPartsWrong : ChangeSpec := { name := "segmParts", fn := fun _ => fun
  | [d1, d2, d3, d4] => { results := [.lit (.bool false)], args := [d1, d2, d3, d4] }
  | _ => none }
def SegmPartsWrongFalsely : Prop := segmPartsRow.holds Tryz.pinned (OpenSpec.ofChange segmPartsWrong)

/-- 'colonnadelaw13.GropRefuses': WHATEVER THE INPUT: true; the input reads as it did. -/
def gropRefusesSpec : ChangeSpec := { name := "gropRefuses", fn := fun _ => fun
  | [d1, d2, d3, d4] => { results := [.lit (.bool true)], args := [d1, d2, d3, d4] }
  | _ => none }
def gropRefusesRow : OpenClaim := { program := "ytmpgnjhgegbdkaagreat", sum := "bbaef2ac66f9b205fa8f8c233d3ede132e1123a89ce26fbc161d534ac15013ad", func := "colonnade/colonnadelaw13.GropRefuses", spec := "gropRefuses", inPlace := ["internal/bytealg.Compare"], unfollowed := true, recurses := true, apart := false }
def GropRefusesSaid : Prop := gropRefusesRow.holds Tryz.pinned (OpenSpec.ofChange gropRefusesSpec)

/-- ITS FALSE NEIGHBOUR: 'it returns false'. Refute it at one input. -/
def gropRefusesWrong : ChangeSpec := { name := "gropRefuses", fn := fun _ => fun
  | [d1, d2, d3, d4] => { results := [.lit (.bool false)], args := [d1, d2, d3, d4] }
  | _ => none }
def GropRefusesWrongFalsely : Prop := gropRefusesRow.holds Tryz.pinned (OpenSpec.ofChange gropRefusesWrong)

/-- 'colonnadelaw13.GropOwn': WHATEVER THE INPUT: true; the input reads as it did. -/
def gropOwnSpec : ChangeSpec := { name := "gropOwn", fn := fun _ => fun
  | [d1, d2] => { results := [.lit (.bool true)], args := [d1, d2] }
  | _ => none }
def gropOwnRow : OpenClaim := { program := "ytmpgnjhgegbdkaagreat", sum := "bbaef2ac66f9b205fa8f8c233d3ede132e1123a89ce26fbc161d534ac15013ad", func := "colonnade/colonnadelaw13.GropOwn", spec := "gropOwn", inPlace := ["internal/bytealg.Compare"], unfollowed := true, recurses := true, apart := false }
def GropOwnSaid : Prop := gropOwnRow.holds Tryz.pinned (OpenSpec.ofChange gropOwnSpec)

/-- ITS FALSE NEIGHBOUR: 'it returns false'. Refute it at one input. -/
def gropOwnWrong : ChangeSpec := { name := "gropOwn", fn := fun _ => fun
  | [d1, d2] => { results := [.lit (.bool false)], args := [d1, d2] }
  | _ => none }
def GropOwnWrongFalsely : Prop := gropOwnRow.holds Tryz.pinned (OpenSpec.ofChange gropOwnWrong)

/-- 'colonnadelaw13.GropPlays': WHATEVER THE INPUT: true; the input reads as it did. -/
def gropPlaysSpec : ChangeSpec := { name := "gropPlays", fn := fun _ => fun
  | [d1, d2, d3, d4, d5] => { results := [.lit (.bool true)], args := [d1, d2, d3, d4, d5] }
  | _ => none }
def gropPlaysRow : OpenClaim := { program := "ytmpgnjhgegbdkaagreat", sum := "bbaef2ac66f9b205fa8f8c233d3ede132e1123a89ce26fbc161d534ac15013ad", func := "colonnade/colonnadelaw13.GropPlays", spec := "gropPlays", inPlace := ["internal/bytealg.Compare"], unfollowed := true, recurses := true, apart := false }
def GropPlaysSaid : Prop := gropPlaysRow.holds Tryz.pinned (OpenSpec.ofChange gropPlaysSpec)

/-- ITS FALSE NEIGHBOUR: 'it returns false'. Refute it at one input. -/
def gropPlaysWrong : ChangeSpec := { name := "gropPlays", fn := fun _ => fun
  | [d1, d2, d3, d4, d5] => { results := [.lit (.bool false)], args := [d1, d2, d3, d4, d5] }
  | _ => none }
def GropPlaysWrongFalsely : Prop := gropPlaysRow.holds Tryz.pinned (OpenSpec.ofChange gropPlaysWrong)

/- THE SECOND FORM. 'bulk': how many values and letters a reading holds, each counted each time it is reached (what is shared counts as often as it is met; a slice's spare places count too). A statement '..UptoSaid' is the law's where the arguments, and the package variables that the reading takes, are together of bulk at most 1048576: NARROWER than '..Said'. Prove '..Said' where nothing that the law and all that it calls make is longer than what came in: it says more and counts as full. Else prove '..UptoSaid'. A law counts once. -/
mutual
def uptoBulk {H : Type} : DataW H → Nat
  | .lit (.string bytes) => bytes.length + 1
  | .lit _ => 1
  | .nil => 1
  | .ptr d => uptoBulk d + 1
  | .slice elems spare => uptoBulkAll elems + uptoBulkAll spare + 1
  | .agg parts => uptoBulkAll parts + 1
  | .iface _ d => uptoBulk d + 1
  | .map entries => uptoBulkEntries entries + 1
  | .held _ => 1
def uptoBulkAll {H : Type} : List (DataW H) → Nat
  | [] => 0
  | d :: r => uptoBulk d + uptoBulkAll r
def uptoBulkEntries {H : Type} : List (Lit × DataW H) → Nat
  | [] => 0
  | x :: r => uptoBulkEntry x + uptoBulkEntries r
def uptoBulkEntry {H : Type} : Lit × DataW H → Nat
  | (.string bytes, d) => bytes.length + uptoBulk d + 1
  | (_, d) => uptoBulk d + 1
 end
def uptoSmall : (H : Type) → List (DataW H) → Bool := fun _ ds => decide (uptoBulkAll ds ≤ 1048576)
def OpenSpec.upto (s : _root_.Go.ChangeSpec) : _root_.Go.OpenSpec := { _root_.Go.OpenSpec.ofChange s with cond := some uptoSmall }

/-- 'colonnadelaw10.SegmMany', WHERE WHAT IT READS IS OF BULK AT MOST 1048576: true; the input reads as it did. -/
def segmManyUptoRow : OpenClaim := { program := "ytmpgnjhgegbdkaagreat", sum := "bbaef2ac66f9b205fa8f8c233d3ede132e1123a89ce26fbc161d534ac15013ad", func := "colonnade/colonnadelaw10.SegmMany", spec := "segmMany", inPlace := ["internal/bytealg.Compare"], unfollowed := true, recurses := true, apart := false, narrowed := true }
def SegmManyUptoSaid : Prop := segmManyUptoRow.holds Tryz.pinned (OpenSpec.upto segmManySpec)

/-- 'colonnadelaw10.SegmSmall', WHERE WHAT IT READS IS OF BULK AT MOST 1048576: true; the input reads as it did. -/
def segmSmallUptoRow : OpenClaim := { program := "ytmpgnjhgegbdkaagreat", sum := "bbaef2ac66f9b205fa8f8c233d3ede132e1123a89ce26fbc161d534ac15013ad", func := "colonnade/colonnadelaw10.SegmSmall", spec := "segmSmall", inPlace := ["internal/bytealg.Compare"], unfollowed := true, recurses := true, apart := false, narrowed := true }
def SegmSmallUptoSaid : Prop := segmSmallUptoRow.holds Tryz.pinned (OpenSpec.upto segmSmallSpec)

/-- 'colonnadelaw10.SegmBack', WHERE WHAT IT READS IS OF BULK AT MOST 1048576: true; the input reads as it did. -/
def segmBackUptoRow : OpenClaim := { program := "ytmpgnjhgegbdkaagreat", sum := "bbaef2ac66f9b205fa8f8c233d3ede132e1123a89ce26fbc161d534ac15013ad", func := "colonnade/colonnadelaw10.SegmBack", spec := "segmBack", inPlace := ["internal/bytealg.Compare"], unfollowed := true, recurses := true, apart := false, narrowed := true }
def SegmBackUptoSaid : Prop := segmBackUptoRow.holds Tryz.pinned (OpenSpec.upto segmBackSpec)

/-- 'colonnadelaw10.SegmAny', WHERE WHAT IT READS IS OF BULK AT MOST 1048576: true; the input reads as it did. -/
def segmAnyUptoRow : OpenClaim := { program := "ytmpgnjhgegbdkaagreat", sum := "bbaef2ac66f9b205fa8f8c233d3ede132e1123a89ce26fbc161d534ac15013ad", func := "colonnade/colonnadelaw10.SegmAny", spec := "segmAny", inPlace := ["internal/bytealg.Compare"], unfollowed := true, recurses := true, apart := false, narrowed := true }
def SegmAnyUptoSaid : Prop := segmAnyUptoRow.holds Tryz.pinned (OpenSpec.upto segmAnySpec)

/-- 'colonnadelaw10.SegmPicks', WHERE WHAT IT READS IS OF BULK AT MOST 1048576: true; the input reads as it did. -/
def segmPicksUptoRow : OpenClaim := { program := "ytmpgnjhgegbdkaagreat", sum := "bbaef2ac66f9b205fa8f8c233d3ede132e1123a89ce26fbc161d534ac15013ad", func := "colonnade/colonnadelaw10.SegmPicks", spec := "segmPicks", inPlace := ["internal/bytealg.Compare"], unfollowed := true, recurses := true, apart := false, narrowed := true }
def SegmPicksUptoSaid : Prop := segmPicksUptoRow.holds Tryz.pinned (OpenSpec.upto segmPicksSpec)

/-- 'colonnadelaw10.SegmOwn', WHERE WHAT IT READS IS OF BULK AT MOST 1048576: true; the input reads as it did. -/
def segmOwnUptoRow : OpenClaim := { program := "ytmpgnjhgegbdkaagreat", sum := "bbaef2ac66f9b205fa8f8c233d3ede132e1123a89ce26fbc161d534ac15013ad", func := "colonnade/colonnadelaw10.SegmOwn", spec := "segmOwn", inPlace := ["internal/bytealg.Compare"], unfollowed := true, recurses := true, apart := false, narrowed := true }
def SegmOwnUptoSaid : Prop := segmOwnUptoRow.holds Tryz.pinned (OpenSpec.upto segmOwnSpec)

/-- 'colonnadelaw10.SegmParts', WHERE WHAT IT READS IS OF BULK AT MOST 1048576: true; the input reads as it did. -/
def segmPartsUptoRow : OpenClaim := { program := "ytmpgnjhgegbdkaagreat", sum := "bbaef2ac66f9b205fa8f8c233d3ede132e1123a89ce26fbc161d534ac15013ad", func := "colonnade/colonnadelaw10.SegmParts", spec := "segmParts", inPlace := ["internal/bytealg.Compare"], unfollowed := true, recurses := true, apart := false, narrowed := true }
def SegmPartsUptoSaid : Prop := segmPartsUptoRow.holds Tryz.pinned (OpenSpec.upto segmPartsSpec)

/-- 'colonnadelaw13.GropRefuses', WHERE WHAT IT READS IS OF BULK AT MOST 1048576: true; the input reads as it did. -/
def gropRefusesUptoRow : OpenClaim := { program := "ytmpgnjhgegbdkaagreat", sum := "bbaef2ac66f9b205fa8f8c233d3ede132e1123a89ce26fbc161d534ac15013ad", func := "colonnade/colonnadelaw13.GropRefuses", spec := "gropRefuses", inPlace := ["internal/bytealg.Compare"], unfollowed := true, recurses := true, apart := false, narrowed := true }
def GropRefusesUptoSaid : Prop := gropRefusesUptoRow.holds Tryz.pinned (OpenSpec.upto gropRefusesSpec)

/-- 'colonnadelaw13.GropOwn', WHERE WHAT IT READS IS OF BULK AT MOST 1048576: true; the input reads as it did. -/
def gropOwnUptoRow : OpenClaim := { program := "ytmpgnjhgegbdkaagreat", sum := "bbaef2ac66f9b205fa8f8c233d3ede132e1123a89ce26fbc161d534ac15013ad", func := "colonnade/colonnadelaw13.GropOwn", spec := "gropOwn", inPlace := ["internal/bytealg.Compare"], unfollowed := true, recurses := true, apart := false, narrowed := true }
def GropOwnUptoSaid : Prop := gropOwnUptoRow.holds Tryz.pinned (OpenSpec.upto gropOwnSpec)

/-- 'colonnadelaw13.GropPlays', WHERE WHAT IT READS IS OF BULK AT MOST 1048576: true; the input reads as it did. -/
def gropPlaysUptoRow : OpenClaim := { program := "ytmpgnjhgegbdkaagreat", sum := "bbaef2ac66f9b205fa8f8c233d3ede132e1123a89ce26fbc161d534ac15013ad", func := "colonnade/colonnadelaw13.GropPlays", spec := "gropPlays", inPlace := ["internal/bytealg.Compare"], unfollowed := true, recurses := true, apart := false, narrowed := true }
def GropPlaysUptoSaid : Prop := gropPlaysUptoRow.holds Tryz.pinned (OpenSpec.upto gropPlaysSpec)

end Rows
end Go.Proofs.YtmpgnjhgegbdkaaGreat
