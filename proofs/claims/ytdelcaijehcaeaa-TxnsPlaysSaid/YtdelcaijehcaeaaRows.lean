/-
  No cell of these rows narrows 'for every input' (looked for: loops, veiled, ifaces, maps, wideKeys, modest, calm, conditions, laid).
  DERIVED. THE GIVEN ROWS OF THIS SEAT. 12 by the template 'for every input the law returns true; each argument reads behind the call as it read before'; 0 by the template 'total and deterministic' (their statements: YtdelcaijehcaeaaTotals.lean).
  GIVEN WITH THE SEED: the statements are not yours to turn. If you find one false, say at which input.
  Laid BY PROGRAM, IN A SANDBOX (cutbox-rows.mjs): the forced cells as the released guide's own fill.sh prints them over the translation 62ad9a096b13f1a6… (all of the seat's roots in one cut). By AI agents, Wed Nov 11 2026. No macro, syntax, notation, axiom, sorry.
-/
import Derived.Test.YtdelcaijehcaeaaChecked
import GoSem.Claim
import GoSem.ClaimJoined
import GoSem.ClaimMapViews
import Derived.JoinedTies
import Derived.KernelRfl
namespace Go.Proofs.Ytdelcaijehcaeaa
/- THE CELL 'sum', in the pinned program and in every row, IS THE sha256 OF THE DUMP (.gsa) THAT YtdelcaijehcaeaaProg.lean LOADS. Nothing in Lean hashes anything: it is a label: what it is worth is what the hold of that sum in a sandbox is worth. -/
noncomputable def Try.pinned : Pinned := { name := "ytdelcaijehcaeaa", sum := "62ad9a096b13f1a684c438a8a58e37ba143619e033a2e41e75d778d16b547ad3", checked := Try.checked }
namespace Rows
def none {H : Type} : Left H := { results := [], args := [] }

/-- 'colonnadelaw1.BitpWidths': WHATEVER THE INPUT: true; the input reads as it did. -/
def bitpWidthsSpec : ChangeSpec := { name := "bitpWidths", fn := fun _ => fun
  | [d] => { results := [.lit (.bool true)], args := [d] }
  | _ => none }
def bitpWidthsRow : OpenClaim := { program := "ytdelcaijehcaeaa", sum := "62ad9a096b13f1a684c438a8a58e37ba143619e033a2e41e75d778d16b547ad3", func := "colonnade/colonnadelaw1.BitpWidths", spec := "bitpWidths", apart := false }
def BitpWidthsSaid : Prop := bitpWidthsRow.holds Try.pinned (OpenSpec.ofChange bitpWidthsSpec)

/-- ITS FALSE NEIGHBOUR: 'it returns false'. Refute it at one input. -/
def bitpWidthsWrong : ChangeSpec := { name := "bitpWidths", fn := fun _ => fun
  | [d] => { results := [.lit (.bool false)], args := [d] }
  | _ => none }
def BitpWidthsWrongFalsely : Prop := bitpWidthsRow.holds Try.pinned (OpenSpec.ofChange bitpWidthsWrong)

/-- 'colonnadelaw1.BitpBack': WHATEVER THE INPUT: true; the input reads as it did. -/
def bitpBackSpec : ChangeSpec := { name := "bitpBack", fn := fun _ => fun
  | [d1, d2] => { results := [.lit (.bool true)], args := [d1, d2] }
  | _ => none }
def bitpBackRow : OpenClaim := { program := "ytdelcaijehcaeaa", sum := "62ad9a096b13f1a684c438a8a58e37ba143619e033a2e41e75d778d16b547ad3", func := "colonnade/colonnadelaw1.BitpBack", spec := "bitpBack", apart := false }
def BitpBackSaid : Prop := bitpBackRow.holds Try.pinned (OpenSpec.ofChange bitpBackSpec)

/-- ITS FALSE NEIGHBOUR: 'it returns false'. Refute it at one input. -/
def bitpBackWrong : ChangeSpec := { name := "bitpBack", fn := fun _ => fun
  | [d1, d2] => { results := [.lit (.bool false)], args := [d1, d2] }
  | _ => none }
def BitpBackWrongFalsely : Prop := bitpBackRow.holds Try.pinned (OpenSpec.ofChange bitpBackWrong)

/-- 'colonnadelaw1.BitpOwn': WHATEVER THE INPUT: true; the input reads as it did. -/
def bitpOwnSpec : ChangeSpec := { name := "bitpOwn", fn := fun _ => fun
  | [d1, d2, d3, d4] => { results := [.lit (.bool true)], args := [d1, d2, d3, d4] }
  | _ => none }
def bitpOwnRow : OpenClaim := { program := "ytdelcaijehcaeaa", sum := "62ad9a096b13f1a684c438a8a58e37ba143619e033a2e41e75d778d16b547ad3", func := "colonnade/colonnadelaw1.BitpOwn", spec := "bitpOwn", apart := false }
def BitpOwnSaid : Prop := bitpOwnRow.holds Try.pinned (OpenSpec.ofChange bitpOwnSpec)

/-- ITS FALSE NEIGHBOUR: 'it returns false'. Refute it at one input. -/
def bitpOwnWrong : ChangeSpec := { name := "bitpOwn", fn := fun _ => fun
  | [d1, d2, d3, d4] => { results := [.lit (.bool false)], args := [d1, d2, d3, d4] }
  | _ => none }
def BitpOwnWrongFalsely : Prop := bitpOwnRow.holds Try.pinned (OpenSpec.ofChange bitpOwnWrong)

/-- 'colonnadelaw2.CodeZigs': WHATEVER THE INPUT: true; the input reads as it did. -/
def codeZigsSpec : ChangeSpec := { name := "codeZigs", fn := fun _ => fun
  | [d] => { results := [.lit (.bool true)], args := [d] }
  | _ => none }
def codeZigsRow : OpenClaim := { program := "ytdelcaijehcaeaa", sum := "62ad9a096b13f1a684c438a8a58e37ba143619e033a2e41e75d778d16b547ad3", func := "colonnade/colonnadelaw2.CodeZigs", spec := "codeZigs", apart := false }
def CodeZigsSaid : Prop := codeZigsRow.holds Try.pinned (OpenSpec.ofChange codeZigsSpec)

/-- ITS FALSE NEIGHBOUR: 'it returns false'. Refute it at one input. -/
def codeZigsWrong : ChangeSpec := { name := "codeZigs", fn := fun _ => fun
  | [d] => { results := [.lit (.bool false)], args := [d] }
  | _ => none }
def CodeZigsWrongFalsely : Prop := codeZigsRow.holds Try.pinned (OpenSpec.ofChange codeZigsWrong)

/-- 'colonnadelaw18.TxnsTimes': WHATEVER THE INPUT: true; the input reads as it did. -/
def txnsTimesSpec : ChangeSpec := { name := "txnsTimes", fn := fun _ => fun
  | [d] => { results := [.lit (.bool true)], args := [d] }
  | _ => none }
def txnsTimesRow : OpenClaim := { program := "ytdelcaijehcaeaa", sum := "62ad9a096b13f1a684c438a8a58e37ba143619e033a2e41e75d778d16b547ad3", func := "colonnade/colonnadelaw18.TxnsTimes", spec := "txnsTimes", apart := false }
def TxnsTimesSaid : Prop := txnsTimesRow.holds Try.pinned (OpenSpec.ofChange txnsTimesSpec)

/-- ITS FALSE NEIGHBOUR: 'it returns false'. Refute it at one input. -/
def txnsTimesWrong : ChangeSpec := { name := "txnsTimes", fn := fun _ => fun
  | [d] => { results := [.lit (.bool false)], args := [d] }
  | _ => none }
def TxnsTimesWrongFalsely : Prop := txnsTimesRow.holds Try.pinned (OpenSpec.ofChange txnsTimesWrong)

/-- 'colonnadelaw18.TxnsOwn': WHATEVER THE INPUT: true; the input reads as it did. -/
def txnsOwnSpec : ChangeSpec := { name := "txnsOwn", fn := fun _ => fun
  | [d] => { results := [.lit (.bool true)], args := [d] }
  | _ => none }
def txnsOwnRow : OpenClaim := { program := "ytdelcaijehcaeaa", sum := "62ad9a096b13f1a684c438a8a58e37ba143619e033a2e41e75d778d16b547ad3", func := "colonnade/colonnadelaw18.TxnsOwn", spec := "txnsOwn", apart := false }
def TxnsOwnSaid : Prop := txnsOwnRow.holds Try.pinned (OpenSpec.ofChange txnsOwnSpec)

/-- ITS FALSE NEIGHBOUR: 'it returns false'. Refute it at one input. -/
def txnsOwnWrong : ChangeSpec := { name := "txnsOwn", fn := fun _ => fun
  | [d] => { results := [.lit (.bool false)], args := [d] }
  | _ => none }
def TxnsOwnWrongFalsely : Prop := txnsOwnRow.holds Try.pinned (OpenSpec.ofChange txnsOwnWrong)

/-- 'colonnadelaw2.CodeRows': WHATEVER THE INPUT: true; the input reads as it did. -/
def codeRowsSpec : ChangeSpec := { name := "codeRows", fn := fun _ => fun
  | [d1, d2, d3] => { results := [.lit (.bool true)], args := [d1, d2, d3] }
  | _ => none }
def codeRowsRow : OpenClaim := { program := "ytdelcaijehcaeaa", sum := "62ad9a096b13f1a684c438a8a58e37ba143619e033a2e41e75d778d16b547ad3", func := "colonnade/colonnadelaw2.CodeRows", spec := "codeRows", apart := false }
def CodeRowsSaid : Prop := codeRowsRow.holds Try.pinned (OpenSpec.ofChange codeRowsSpec)

/-- ITS FALSE NEIGHBOUR: 'it returns false'. Refute it at one input. -/
def codeRowsWrong : ChangeSpec := { name := "codeRows", fn := fun _ => fun
  | [d1, d2, d3] => { results := [.lit (.bool false)], args := [d1, d2, d3] }
  | _ => none }
def CodeRowsWrongFalsely : Prop := codeRowsRow.holds Try.pinned (OpenSpec.ofChange codeRowsWrong)

/-- 'colonnadelaw3.NullBack': WHATEVER THE INPUT: true; the input reads as it did. -/
def nullBackSpec : ChangeSpec := { name := "nullBack", fn := fun _ => fun
  | [d1, d2, d3] => { results := [.lit (.bool true)], args := [d1, d2, d3] }
  | _ => none }
def nullBackRow : OpenClaim := { program := "ytdelcaijehcaeaa", sum := "62ad9a096b13f1a684c438a8a58e37ba143619e033a2e41e75d778d16b547ad3", func := "colonnade/colonnadelaw3.NullBack", spec := "nullBack", apart := false }
def NullBackSaid : Prop := nullBackRow.holds Try.pinned (OpenSpec.ofChange nullBackSpec)

/-- ITS FALSE NEIGHBOUR: 'it returns false'. Refute it at one input. -/
def nullBackWrong : ChangeSpec := { name := "nullBack", fn := fun _ => fun
  | [d1, d2, d3] => { results := [.lit (.bool false)], args := [d1, d2, d3] }
  | _ => none }
def NullBackWrongFalsely : Prop := nullBackRow.holds Try.pinned (OpenSpec.ofChange nullBackWrong)

/-- 'colonnadelaw1.BitpTells': WHATEVER THE INPUT: true; the input reads as it did. -/
def bitpTellsSpec : ChangeSpec := { name := "bitpTells", fn := fun _ => fun
  | [d1, d2, d3, d4, d5, d6, d7] => { results := [.lit (.bool true)], args := [d1, d2, d3, d4, d5, d6, d7] }
  | _ => none }
def bitpTellsRow : OpenClaim := { program := "ytdelcaijehcaeaa", sum := "62ad9a096b13f1a684c438a8a58e37ba143619e033a2e41e75d778d16b547ad3", func := "colonnade/colonnadelaw1.BitpTells", spec := "bitpTells", apart := false }
def BitpTellsSaid : Prop := bitpTellsRow.holds Try.pinned (OpenSpec.ofChange bitpTellsSpec)

/-- ITS FALSE NEIGHBOUR: 'it returns false'. Refute it at one input. -/
def bitpTellsWrong : ChangeSpec := { name := "bitpTells", fn := fun _ => fun
  | [d1, d2, d3, d4, d5, d6, d7] => { results := [.lit (.bool false)], args := [d1, d2, d3, d4, d5, d6, d7] }
  | _ => none }
def BitpTellsWrongFalsely : Prop := bitpTellsRow.holds Try.pinned (OpenSpec.ofChange bitpTellsWrong)

/-- 'colonnadelaw3.NullTells': WHATEVER THE INPUT: true; the input reads as it did. -/
def nullTellsSpec : ChangeSpec := { name := "nullTells", fn := fun _ => fun
  | [d1, d2, d3, d4, d5] => { results := [.lit (.bool true)], args := [d1, d2, d3, d4, d5] }
  | _ => none }
def nullTellsRow : OpenClaim := { program := "ytdelcaijehcaeaa", sum := "62ad9a096b13f1a684c438a8a58e37ba143619e033a2e41e75d778d16b547ad3", func := "colonnade/colonnadelaw3.NullTells", spec := "nullTells", apart := false }
def NullTellsSaid : Prop := nullTellsRow.holds Try.pinned (OpenSpec.ofChange nullTellsSpec)

/-- ITS FALSE NEIGHBOUR: 'it returns false'. Refute it at one input. -/
def nullTellsWrong : ChangeSpec := { name := "nullTells", fn := fun _ => fun
  | [d1, d2, d3, d4, d5] => { results := [.lit (.bool false)], args := [d1, d2, d3, d4, d5] }
  | _ => none }
def NullTellsWrongFalsely : Prop := nullTellsRow.holds Try.pinned (OpenSpec.ofChange nullTellsWrong)

/-- 'colonnadelaw18.TxnsPlays': WHATEVER THE INPUT: true; the input reads as it did. -/
def txnsPlaysSpec : ChangeSpec := { name := "txnsPlays", fn := fun _ => fun
  | [d] => { results := [.lit (.bool true)], args := [d] }
  | _ => none }
def txnsPlaysRow : OpenClaim := { program := "ytdelcaijehcaeaa", sum := "62ad9a096b13f1a684c438a8a58e37ba143619e033a2e41e75d778d16b547ad3", func := "colonnade/colonnadelaw18.TxnsPlays", spec := "txnsPlays", apart := false }
def TxnsPlaysSaid : Prop := txnsPlaysRow.holds Try.pinned (OpenSpec.ofChange txnsPlaysSpec)

/-- ITS FALSE NEIGHBOUR: 'it returns false'. Refute it at one input. -/
def txnsPlaysWrong : ChangeSpec := { name := "txnsPlays", fn := fun _ => fun
  | [d] => { results := [.lit (.bool false)], args := [d] }
  | _ => none }
def TxnsPlaysWrongFalsely : Prop := txnsPlaysRow.holds Try.pinned (OpenSpec.ofChange txnsPlaysWrong)

/-- 'colonnadelaw11.StamState': WHATEVER THE INPUT: true; the input reads as it did. -/
def stamStateSpec : ChangeSpec := { name := "stamState", fn := fun _ => fun
  | [d1, d2] => { results := [.lit (.bool true)], args := [d1, d2] }
  | _ => none }
def stamStateRow : OpenClaim := { program := "ytdelcaijehcaeaa", sum := "62ad9a096b13f1a684c438a8a58e37ba143619e033a2e41e75d778d16b547ad3", func := "colonnade/colonnadelaw11.StamState", spec := "stamState", unfollowed := true, recurses := true, apart := false }
def StamStateSaid : Prop := stamStateRow.holds Try.pinned (OpenSpec.ofChange stamStateSpec)

/-- ITS FALSE NEIGHBOUR: 'it returns false'. Refute it at one input. -/
def stamStateWrong : ChangeSpec := { name := "stamState", fn := fun _ => fun
  | [d1, d2] => { results := [.lit (.bool false)], args := [d1, d2] }
  | _ => none }
def StamStateWrongFalsely : Prop := stamStateRow.holds Try.pinned (OpenSpec.ofChange stamStateWrong)

/- THE SECOND FORM. 'bulk': how many values and letters a reading holds, each counted each time it is reached (what is shared counts as often as it is met; a slice's spare places count too). A statement '..UptoSaid' is the law's where the arguments, and the package variables that the reading takes, are together of bulk at most 1048576: NARROWER than '..Said'. Prove '..Said' where nothing that the law and all that it calls make is longer than what came in: it says more and counts as full. Else prove '..UptoSaid'. A law counts once. -/
mutual
def uptoBulk {H : Type} : DataW H → Nat
  | .lit (.string bytes) => bytes.length + 1
  | .lit _ => 1
  | .nil => 1
  | .ptr d => uptoBulk d + 1
  | .slice elems spare => uptoBulkAll elems + uptoBulkAll spare + 1
  | .agg parts => uptoBulkAll parts + 1
  | .iface _ d => uptoBulk d + 1
  | .map entries => uptoBulkEntries entries + 1
  | .held _ => 1
def uptoBulkAll {H : Type} : List (DataW H) → Nat
  | [] => 0
  | d :: r => uptoBulk d + uptoBulkAll r
def uptoBulkEntries {H : Type} : List (Lit × DataW H) → Nat
  | [] => 0
  | x :: r => uptoBulkEntry x + uptoBulkEntries r
def uptoBulkEntry {H : Type} : Lit × DataW H → Nat
  | (.string bytes, d) => bytes.length + uptoBulk d + 1
  | (_, d) => uptoBulk d + 1
 end
def uptoSmall : (H : Type) → List (DataW H) → Bool := fun _ ds => decide (uptoBulkAll ds ≤ 1048576)
def OpenSpec.upto (s : _root_.Go.ChangeSpec) : _root_.Go.OpenSpec := { _root_.Go.OpenSpec.ofChange s with cond := some uptoSmall }

/-- 'colonnadelaw1.BitpWidths', WHERE WHAT IT READS IS OF BULK AT MOST 1048576: true; the input reads as it did. -/
def bitpWidthsUptoRow : OpenClaim := { program := "ytdelcaijehcaeaa", sum := "62ad9a096b13f1a684c438a8a58e37ba143619e033a2e41e75d778d16b547ad3", func := "colonnade/colonnadelaw1.BitpWidths", spec := "bitpWidths", apart := false, narrowed := true }
def BitpWidthsUptoSaid : Prop := bitpWidthsUptoRow.holds Try.pinned (OpenSpec.upto bitpWidthsSpec)

/-- 'colonnadelaw1.BitpBack', WHERE WHAT IT READS IS OF BULK AT MOST 1048576: true; the input reads as it did. -/
def bitpBackUptoRow : OpenClaim := { program := "ytdelcaijehcaeaa", sum := "62ad9a096b13f1a684c438a8a58e37ba143619e033a2e41e75d778d16b547ad3", func := "colonnade/colonnadelaw1.BitpBack", spec := "bitpBack", apart := false, narrowed := true }
def BitpBackUptoSaid : Prop := bitpBackUptoRow.holds Try.pinned (OpenSpec.upto bitpBackSpec)

/-- 'colonnadelaw1.BitpOwn', WHERE WHAT IT READS IS OF BULK AT MOST 1048576: true; the input reads as it did. -/
def bitpOwnUptoRow : OpenClaim := { program := "ytdelcaijehcaeaa", sum := "62ad9a096b13f1a684c438a8a58e37ba143619e033a2e41e75d778d16b547ad3", func := "colonnade/colonnadelaw1.BitpOwn", spec := "bitpOwn", apart := false, narrowed := true }
def BitpOwnUptoSaid : Prop := bitpOwnUptoRow.holds Try.pinned (OpenSpec.upto bitpOwnSpec)

/-- 'colonnadelaw2.CodeZigs', WHERE WHAT IT READS IS OF BULK AT MOST 1048576: true; the input reads as it did. -/
def codeZigsUptoRow : OpenClaim := { program := "ytdelcaijehcaeaa", sum := "62ad9a096b13f1a684c438a8a58e37ba143619e033a2e41e75d778d16b547ad3", func := "colonnade/colonnadelaw2.CodeZigs", spec := "codeZigs", apart := false, narrowed := true }
def CodeZigsUptoSaid : Prop := codeZigsUptoRow.holds Try.pinned (OpenSpec.upto codeZigsSpec)

/-- 'colonnadelaw18.TxnsTimes', WHERE WHAT IT READS IS OF BULK AT MOST 1048576: true; the input reads as it did. -/
def txnsTimesUptoRow : OpenClaim := { program := "ytdelcaijehcaeaa", sum := "62ad9a096b13f1a684c438a8a58e37ba143619e033a2e41e75d778d16b547ad3", func := "colonnade/colonnadelaw18.TxnsTimes", spec := "txnsTimes", apart := false, narrowed := true }
def TxnsTimesUptoSaid : Prop := txnsTimesUptoRow.holds Try.pinned (OpenSpec.upto txnsTimesSpec)

/-- 'colonnadelaw18.TxnsOwn', WHERE WHAT IT READS IS OF BULK AT MOST 1048576: true; the input reads as it did. -/
def txnsOwnUptoRow : OpenClaim := { program := "ytdelcaijehcaeaa", sum := "62ad9a096b13f1a684c438a8a58e37ba143619e033a2e41e75d778d16b547ad3", func := "colonnade/colonnadelaw18.TxnsOwn", spec := "txnsOwn", apart := false, narrowed := true }
def TxnsOwnUptoSaid : Prop := txnsOwnUptoRow.holds Try.pinned (OpenSpec.upto txnsOwnSpec)

/-- 'colonnadelaw2.CodeRows', WHERE WHAT IT READS IS OF BULK AT MOST 1048576: true; the input reads as it did. -/
def codeRowsUptoRow : OpenClaim := { program := "ytdelcaijehcaeaa", sum := "62ad9a096b13f1a684c438a8a58e37ba143619e033a2e41e75d778d16b547ad3", func := "colonnade/colonnadelaw2.CodeRows", spec := "codeRows", apart := false, narrowed := true }
def CodeRowsUptoSaid : Prop := codeRowsUptoRow.holds Try.pinned (OpenSpec.upto codeRowsSpec)

/-- 'colonnadelaw3.NullBack', WHERE WHAT IT READS IS OF BULK AT MOST 1048576: true; the input reads as it did. -/
def nullBackUptoRow : OpenClaim := { program := "ytdelcaijehcaeaa", sum := "62ad9a096b13f1a684c438a8a58e37ba143619e033a2e41e75d778d16b547ad3", func := "colonnade/colonnadelaw3.NullBack", spec := "nullBack", apart := false, narrowed := true }
def NullBackUptoSaid : Prop := nullBackUptoRow.holds Try.pinned (OpenSpec.upto nullBackSpec)

/-- 'colonnadelaw1.BitpTells', WHERE WHAT IT READS IS OF BULK AT MOST 1048576: true; the input reads as it did. -/
def bitpTellsUptoRow : OpenClaim := { program := "ytdelcaijehcaeaa", sum := "62ad9a096b13f1a684c438a8a58e37ba143619e033a2e41e75d778d16b547ad3", func := "colonnade/colonnadelaw1.BitpTells", spec := "bitpTells", apart := false, narrowed := true }
def BitpTellsUptoSaid : Prop := bitpTellsUptoRow.holds Try.pinned (OpenSpec.upto bitpTellsSpec)

/-- 'colonnadelaw3.NullTells', WHERE WHAT IT READS IS OF BULK AT MOST 1048576: true; the input reads as it did. -/
def nullTellsUptoRow : OpenClaim := { program := "ytdelcaijehcaeaa", sum := "62ad9a096b13f1a684c438a8a58e37ba143619e033a2e41e75d778d16b547ad3", func := "colonnade/colonnadelaw3.NullTells", spec := "nullTells", apart := false, narrowed := true }
def NullTellsUptoSaid : Prop := nullTellsUptoRow.holds Try.pinned (OpenSpec.upto nullTellsSpec)

/-- 'colonnadelaw18.TxnsPlays', WHERE WHAT IT READS IS OF BULK AT MOST 1048576: true; the input reads as it did. -/
def txnsPlaysUptoRow : OpenClaim := { program := "ytdelcaijehcaeaa", sum := "62ad9a096b13f1a684c438a8a58e37ba143619e033a2e41e75d778d16b547ad3", func := "colonnade/colonnadelaw18.TxnsPlays", spec := "txnsPlays", apart := false, narrowed := true }
def TxnsPlaysUptoSaid : Prop := txnsPlaysUptoRow.holds Try.pinned (OpenSpec.upto txnsPlaysSpec)

/-- 'colonnadelaw11.StamState', WHERE WHAT IT READS IS OF BULK AT MOST 1048576: true; the input reads as it did. -/
def stamStateUptoRow : OpenClaim := { program := "ytdelcaijehcaeaa", sum := "62ad9a096b13f1a684c438a8a58e37ba143619e033a2e41e75d778d16b547ad3", func := "colonnade/colonnadelaw11.StamState", spec := "stamState", unfollowed := true, recurses := true, apart := false, narrowed := true }
def StamStateUptoSaid : Prop := stamStateUptoRow.holds Try.pinned (OpenSpec.upto stamStateSpec)

end Rows
end Go.Proofs.Ytdelcaijehcaeaa
